/-
  TeRc: CONTRACTS: chapter 15: the document's expr: a call; expr for every list of tokens.
-/
import Derived.Test.YtojmcndiooiehaaGreatDoorJ34

set_option linter.unusedSimpArgs false
set_option linter.unusedVariables false
namespace Go.Proofs.YtojmcndiooiehaaGreatDoor
open Go.RowKit Go.Sort
open Me

namespace Te
/-- What is left of a call, where so many nodes are within. -/
def headRes (d : Nat) (t : List UInt8) (acc : List Nd) (r : List Tok) : Res := if hd 4 r = true then .ok (.mk 1 t 0 acc, r.drop 1) else if acc.length = 0 then kidsA d t acc r else if hd 5 r = true then kidsA d t acc (r.drop 1) else .error 8
theorem head_ok {d : Nat} {t : List UInt8} {acc : List Nd} {l r : List Tok} {n : Nd} (h : expr d l = .ok (n, r)) : kidsA d t acc l = headRes d t (acc ++ [n]) r := by
  unfold headRes
  have hl : ¬ (acc ++ [n]).length = 0 := by simp
  cases h4 : hd 4 r
  · rw [if_neg (by decide), if_neg hl]
    cases h5 : hd 5 r
    · rw [if_neg (by decide)]; exact kidsA_no h h4 h5
    · rw [if_pos rfl]; exact kidsA_more h h4 h5
  · rw [if_pos rfl]; exact kidsA_end h h4
/-- The document's call under way, as it lies in memory. -/
structure CallD (w wr : World) (b nb : Nat) (L : List Tok) (i : Nat) (e : Int) (t : List UInt8) (acc : List Nd) (v : Value) : Prop where
  kp : Kp (fun i => i = b) w wr
  rs : Rs wr b L i e
  out : RowAt wr w.heap.size ndT #[.int .i64 0, .string ⟨#[]⟩, .int .i64 0, .slice none 0 0]
  row : RowAt wr nb ndT #[.int .i64 1, .string ⟨t.toArray⟩, .int .i64 0, v]
  own : OwnK (nb + 1) wr v acc
theorem CallD.step {w wr w2 : World} {b nb : Nat} {L : List Tok} {i j : Nat} {e f : Int} {t : List UInt8} {acc : List Nd} {v : Value} (h : CallD w wr b nb L i e t acc v) (hb : b < w.heap.size) (hn : w.heap.size < nb) (k : RsD wr b L j f w2) : CallD w w2 b nb L j f t acc v :=
  ⟨h.kp.trans k.kp fun _ _ e => e, k.rs, beside h.out k.kp (by omega), beside h.row k.kp (by omega), h.own.kp k.kp fun i hi _ e => by have e : i = b := e; omega⟩
theorem CallD.on {w wr w2 : World} {b nb : Nat} {L : List Tok} {i : Nat} {e : Int} {t : List UInt8} {acc : List Nd} {v : Value} (h : CallD w wr b nb L i e t acc v) (hb : b < w.heap.size) (hn : w.heap.size < nb) (k : Below wr.heap.size wr w2) : CallD w w2 b nb L i e t acc v :=
  h.step hb hn ⟨h.rs.on k, Kp.of_below k⟩
theorem CallD.push {w wr w2 w2' w3 : World} {b nb : Nat} {L : List Tok} {i : Nat} {e : Int} {t : List UInt8} {acc : List Nd} {v v2 kv : Value} {x : Nd} {xs : List Value} (h : CallD w w2 b nb L i e t acc v) (hb : b < w.heap.size) (hn : w.heap.size < nb) (hw : nb + 1 ≤ w2.heap.size)
    (hk : Below w2.heap.size w2 w2') (ho : w2'.ownsRow (nb + 1) ndT 4 v acc.length xs) (ha : Ats w2' (fun i => nb + 1 ≤ i ∧ v.ownBlock ≠ some i) acc xs)
    (hx : At w2 (fun i => wr.heap.size ≤ i) x kv) (hwr : nb + 1 ≤ wr.heap.size) (hv : ∀ g, v.ownBlock = some g → g < wr.heap.size)
    (h2 : w3.ownsRow (nb + 1) ndT 4 v2 (acc.length + 1) (xs ++ cel x kv)) (hg : w2'.grownBy w3 v.ownBlock) (hat : v2.ownBlock = v.ownBlock ∨ v2.ownBlock = some w2'.heap.size) : CallD w (w3.setCell ⟨nb, 3, none⟩ v2) b nb L i e t (acc ++ [x]) v2 := by
  have hvl := fun g hg => World.ownsRow.lt ho g hg
  have hz := hk.size
  have hB3 : Below (nb + 1) w2 w3 := (hk.mono hw).grown hg (by omega) (fun g e => (hvl g e).1)
  have hx' : At w2' (fun i => nb + 1 ≤ i ∧ v.ownBlock ≠ some i) x kv := (hx.below hk).mono fun i _ hi => ⟨by have hi : wr.heap.size ≤ i := hi; omega, fun e => by have := hv i e; have hi : wr.heap.size ≤ i := hi; omega⟩
  have hO := OwnK.more ha hx' h2 hg hat
  have hB4 : Below nb w2 (w3.setCell ⟨nb, 3, none⟩ v2) := (show Below nb w2 w3 from hB3.mono (Nat.le_succ _)).setCell (Nat.le_refl _) _
  have hrow : RowAt w3 nb ndT #[.int .i64 1, .string ⟨t.toArray⟩, .int .i64 0, v] := h.row.below hB3 (by omega)
  refine ⟨?_, h.rs.far (hB4.mono (by omega)), h.out.below hB4 (by omega), hrow.set_ 3 _, hO.kp (O := fun i => i = nb) ((Kp.refl (fun i => i = nb) w3).setCell ⟨nb, 3, none⟩ (.inr rfl) _) fun i hi _ e => by have e : i = nb := e; omega⟩
  exact ⟨(hB4.os).trans h.kp.os, hB4.tape.trans h.kp.tape, hB4.output.trans h.kp.output, Nat.le_trans h.kp.size hB4.size, fun i hi hn => (hB4.block i (by omega)).trans (h.kp.block i hi hn)⟩
/-- What an expression within a call leaves, told from the world ahead of it. -/
def RexU (w : World) (b : Nat) (L : List Tok) (res : Res) (e : Ending) (w' : World) : Prop :=
  ∃ (k : Int) (s : List UInt8) (n : Int) (ks : List Nd) (A : Option Addr) (c : Nat) (j : Nat) (er : Int), e = .returned (.agg #[.int .i64 k, .string ⟨s.toArray⟩, .int .i64 n, .slice A ks.length c]) ∧ RsD w b L j er w' ∧ At w' (fun i => w.heap.size ≤ i) (.mk k s n ks) (.slice A ks.length c) ∧
    ((er = 0 ∧ res = .ok (.mk k s n ks, L.drop j)) ∨ (er ≠ 0 ∧ res = .error er))
theorem RexR.u {w W : World} {b : Nat} {L : List Tok} {res : Res} {e : Ending} {w' : World} (hW : Below w.heap.size w W) (hs : W.heap.size = w.heap.size) (h : RexR W b L res e w') : RexU w b L res e w' := by
  obtain ⟨k, s, n, ks, v, he, hk, hr⟩ := h
  have k1 : Kp (fun i => i = b) w w' := (Kp.of_below hW).trans hk fun _ _ e => e
  rcases hr with ⟨j, h1, h2, h3⟩ | ⟨j, er, h1, h2, h3, rfl, rfl, rfl, rfl, rfl⟩
  · obtain ⟨A, c, xs, rfl, _, _⟩ := h3.form
    exact ⟨k, s, n, ks, A, c, j, 0, he, ⟨h1, k1⟩, by rw [← hs]; exact h3, .inl ⟨rfl, h2⟩⟩
  · exact ⟨0, [], 0, [], none, 0, j, er, he, ⟨h2, k1⟩, At.zero _ _ _ _ _, .inr ⟨h1, h3⟩⟩
def pos (W : World) (b : Nat) : Nat := match W.cell? ⟨b, 1, none⟩ with
  | some (.int .i64 n) => n.toNat
  | _ => 0
theorem Rs.pos {W : World} {b : Nat} {L : List Tok} {i : Nat} {e : Int} (h : Rs W b L i e) : pos W b = i := by
  unfold Te.pos
  rw [h.c1.1]
  exact Int.toNat_natCast i
end Te

set_option maxRecDepth 100000 in
set_option maxHeartbeats 8000000 in
theorem rexpr_call {c : Int} {d : Nat} (c0 : 0 ≤ c) (c1 : c ≤ 63) (L : List Te.Tok) (i b : Nat) (w : World) (hl : Te.Small L) (h : Te.Rs w b L i 0) (hX : Te.RexC (c + 1) d) (h2 : Te.hd 2 (L.drop i) = false) (h1 : Te.hd 1 (L.drop i) = true) (h3 : Te.hd 3 (L.drop (i + 1)) = true) (hid : ∀ hi : i < L.length, Lx.identOf L[i].2 = true) :
    Calls Tryz.prog 22 #[.pointer (some ⟨b, 0, none⟩), .int .i64 c] w (Te.RexR w b L (Te.expr (d + 1) (L.drop i))) := by
  have hbl := h.lt
  have hb0 : b ≠ w.heap.size := by omega
  have hc64 : ¬ (64 : Int) ≤ c := by omega
  have hc65 : c < 64 := by omega
  have hil := h.1
  have hLl := hl.1
  have h00 : (0 : Int) ≤ (i : Int) := by omega
  have kk : IntKind.i64.wrap ((i : Int) + 1) = (i : Int) + 1 := IntWalk.i64_in _ (by omega)
  obtain ⟨w0, hw0⟩ : ∃ w0, w0 = w.alloc (.cells #[.int .i64 0, .string ⟨#[]⟩, .int .i64 0, .slice none 0 0] 24) := ⟨_, rfl⟩
  have HB0 : Hid (Below w.heap.size w w0) := Lib.hid (by rw [hw0]; exact (Below.refl _ _).alloc (Nat.le_refl _) _)
  have HO0 : Hid (RowAt w0 w.heap.size 24 #[.int .i64 0, .string ⟨#[]⟩, .int .i64 0, .slice none 0 0]) := Lib.hid (by rw [hw0]; exact RowAt.new w _ _)
  have HR0 : Hid (Te.Rs w0 b L i 0) := Lib.hid (h.on HB0.out)
  have HN2 : Hid (∀ W, Te.Rs W b L i 0 → Calls Tryz.prog 34 #[.pointer (some ⟨b, 0, none⟩), .int .i64 2] W fun e w' => e = .returned (.bool (Te.hd 2 (L.drop i))) ∧ Below W.heap.size W w') := Lib.hid fun W h => rnext_any h hLl 2
  have HSM := Lib.hid hl
  clear h hl
  have HN1 : Hid (∀ W, Te.Rs W b L i 0 → Calls Tryz.prog 34 #[.pointer (some ⟨b, 0, none⟩), .int .i64 1] W fun e w' => e = .returned (.bool (Te.hd 1 (L.drop i))) ∧ Below W.heap.size W w') := Lib.hid fun W h => rnext_any h hLl 1
  have HN3 : Hid (∀ W, Te.Rs W b L (i + 1) 0 → Calls Tryz.prog 34 #[.pointer (some ⟨b, 0, none⟩), .int .i64 3] W fun e w' => e = .returned (.bool (Te.hd 3 (L.drop (i + 1)))) ∧ Below W.heap.size W w') := Lib.hid fun W h => rnext_any h hLl 3
  obtain ⟨hlt, hki, hdr⟩ := Te.hd_at h1
  obtain ⟨hlt3, _, _⟩ := Te.hd_at h3
  have hid := hid hlt
  have htl : L[i].2.length ≤ 4096 := HSM.out.2 L[i] (List.getElem_mem hlt)
  have hd1 : (L.drop (i + 1)).drop 1 = L.drop (i + 1 + 1) := by rw [List.drop_drop]
  have HQ : Hid (Te.expr (d + 1) (L.drop i) = Te.headRes d L[i].2 [] (L.drop (i + 1 + 1))) := Lib.hid (by
    rw [hdr]
    generalize L[i] = x at *
    obtain ⟨k, s⟩ := x
    obtain rfl : k = 1 := hki
    unfold Te.headRes
    cases h4 : Te.hd 4 (L.drop (i + 1 + 1))
    · rw [if_neg (by decide), if_pos (show ([] : List Te.Nd).length = 0 from rfl)]
      have := Te.expr_call d (t := s) (r := L.drop (i + 1)) hid h3 (by rw [hd1]; exact h4)
      rw [this, hd1]
    · rw [if_pos rfl]
      have := Te.expr_empty d (t := s) (r := L.drop (i + 1)) hid h3 (by rw [hd1]; exact h4)
      rw [this, hd1])
  have HXC : Hid (∀ (j : Nat) (w : World), Te.Rs w b L j 0 → ∀ W, Below w.heap.size w W → W.heap.size = w.heap.size → Calls Tryz.prog 22 #[.pointer (some ⟨b, 0, none⟩), .int .i64 (c + 1)] W (Te.RexU w b L (Te.expr d (L.drop j)))) := Lib.hid fun j w h W hW hs => (hX L j b W HSM.out (h.on hW)).mono fun e w' he => he.u hW hs
  have HNX : Hid (∀ (k : Int) (j : Nat) W (e : Int), Te.Rs W b L j e → Calls Tryz.prog 34 #[.pointer (some ⟨b, 0, none⟩), .int .i64 k] W fun e w' => e = .returned (.bool (Te.hd k (L.drop j))) ∧ Below W.heap.size W w') := Lib.hid fun k j W e h => rnext_any h hLl k
  have HID := Lib.hid fun W => lrefIdent_any L[i].2 (by omega) W
  rw [h2] at HN2
  rw [h1] at HN1
  rw [h3] at HN3
  rw [hid] at HID
  have kk2 : IntKind.i64.wrap ((i : Int) + 1 + 1) = (i : Int) + 1 + 1 := IntWalk.i64_in _ (by omega)
  have kc : IntKind.i64.wrap (c + 1) = c + 1 := IntWalk.i64_in _ (by omega)
  obtain ⟨i0, hi0, hz0, hz1, hz2⟩ := info_parts Te.ndinfo
  have HI := Lib.hid hi0
  have HZ := Lib.hid (And.intro hz0 (And.intro hz1 hz2))
  generalize Te.expr (d + 1) (L.drop i) = res at *
  clear h2 h1 h3 hdr hid hX hd1 hi0 hz0 hz1 hz2
  go_enter Tryz.func22, Tryz.ntmps22
  go_wp2_with fail
  rw [← hw0]
  clear hw0
  go_at_call 34
  refine (HN2.out _ HR0.out).mono ?_
  rintro e w1 ⟨rfl, hb1⟩
  have HR1 := Lib.hid (HR0.out.on hb1)
  have HO1 := Lib.hid (HO0.out.below hb1 HO0.out.lt)
  have HK1 : Hid (Kp (fun i => i = b) w w1) := Lib.hid (Kp.of_below (HB0.out.trans (hb1.mono HB0.out.size)))
  have hz1 : w.heap.size < w1.heap.size := HO1.out.lt
  clear hb1
  go_wp2_with fail
  go_at_call 34
  refine (HN1.out _ HR1.out).mono ?_
  rintro e w2 ⟨rfl, hb2⟩
  have HR2 := Lib.hid (HR1.out.on hb2)
  have HO2 := Lib.hid (HO1.out.below hb2 HO1.out.lt)
  have HK2 : Hid (Kp (fun i => i = b) w w2) := Lib.hid (HK1.out.trans (Kp.of_below (O := fun _ => False) hb2) fun _ _ e => e.elim)
  have hz2 : w.heap.size < w2.heap.size := HO2.out.lt
  clear hb2
  obtain ⟨A, cp, hrow, hrd⟩ := HR2.out.2
  obtain ⟨b1, o1, rfl, hb1, t0, t1⟩ := Lx.rd_tok hrd hlt
  have r0 : w2.cell? ⟨b, 0, none⟩ = some (.slice (some ⟨b1, o1, none⟩) L.length cp) := (hrow.cell 0).trans rfl
  have r1 : w2.cell? ⟨b, 1, none⟩ = some (.int .i64 (i : Int)) := (hrow.cell 1).trans rfl
  have rf1 : w2.frozen? ⟨b, 1, none⟩ = false := hrow.frozen 1
  have hI : (i : Int) < (L.length : Int) := by omega
  rw [hki] at t0
  have hb1l : b1 < w.heap.size := by
    obtain ⟨ad, ead, _, hg, _⟩ := hrd (by intro e; have := Lx.cellsT_len L; rw [e] at this; simp at this; omega)
    have hg : ad.block < b := hg
    injection ead with ead
    rw [← ead] at hg
    have hg : b1 < b := hg
    omega
  clear hrow hrd
  generalize L[i].2 = tt at *
  clear hki htl
  have HL3 := Lib.hid hlt3
  have rl2 := HR2.out.lt
  go_wp2_with fail
  go_quiet (fail)
  rename_i nq
  have HR3 : Hid (Te.Rs ((w2.drewN nq).setCell ⟨b, 1, none⟩ (.int .i64 ((i : Int) + 1))) b L (i + 1) 0) := Lib.hid ((HR2.out.on (Lx.below_drewN (Below.refl _ _) nq)).setI (i + 1) (by have := HL3.out; omega) _ (by omega))
  have HO3 : Hid (RowAt ((w2.drewN nq).setCell ⟨b, 1, none⟩ (.int .i64 ((i : Int) + 1))) w.heap.size 24 #[.int .i64 0, .string ⟨#[]⟩, .int .i64 0, .slice none 0 0]) := Lib.hid ((RowAt.drewN HO2.out nq).far (by show w.heap.size ≠ b; omega) _)
  have HK3 : Hid (Kp (fun i => i = b) w ((w2.drewN nq).setCell ⟨b, 1, none⟩ (.int .i64 ((i : Int) + 1)))) := Lib.hid ((HK2.out.drewN nq).setCell ⟨b, 1, none⟩ (.inr rfl) _)
  clear t0 t1 hb1 hb1l
  go_wp2_with fail
  go_at_call 34
  refine (HN3.out _ HR3.out).mono ?_
  rintro e w4 ⟨rfl, hb4⟩
  have HR4 := Lib.hid (HR3.out.on hb4)
  have HO4 := Lib.hid (HO3.out.below hb4 HO3.out.lt)
  have HK4 : Hid (Kp (fun i => i = b) w w4) := Lib.hid (HK3.out.trans (Kp.of_below (O := fun _ => False) hb4) fun _ _ e => e.elim)
  have u1 : w4.cell? ⟨b, 1, none⟩ = some (.int .i64 ((i : Int) + 1)) := by have := HR4.out.c1.1; rw [this]; congr 2
  have u2 := HR4.out.c1.2
  have l4 := HO4.out.lt
  clear hb4
  go_wp2_with (go_at_call 35; go_must (refine (HID.out _).mono ?_; rintro e wi ⟨rfl, rfl⟩))
  obtain ⟨w5, hw5⟩ : ∃ w5, w5 = (w4.setCell ⟨b, 1, none⟩ (.int .i64 ((i : Int) + 1 + 1))).alloc (.cells #[.int .i64 1, .string ⟨tt.toArray⟩, .int .i64 0, .slice none 0 0] 24) := ⟨_, rfl⟩
  have HM5 : Hid (Te.CallD w w5 b w4.heap.size L (i + 1 + 1) 0 tt [] (.slice none 0 0)) := Lib.hid (by
    rw [hw5]
    refine ⟨(HK4.out.setCell ⟨b, 1, none⟩ (.inr rfl) _).alloc _, (HR4.out.setI (i + 1 + 1) (by have := HL3.out; omega) _ (by omega)).on ((Below.refl _ _).alloc (Nat.le_refl _) _), (HO4.out.far (by show w.heap.size ≠ b; omega) _).alloc _, ?_, Te.OwnK.nil _ _⟩
    have := RowAt.new (w4.setCell ⟨b, 1, none⟩ (.int .i64 ((i : Int) + 1 + 1))) #[.int .i64 1, .string ⟨tt.toArray⟩, .int .i64 0, .slice none 0 0] 24
    simpa using this)
  have hz5 : w4.heap.size + 1 ≤ w5.heap.size := by rw [hw5]; simp
  obtain ⟨nb, hnb⟩ : ∃ nb, nb = w4.heap.size := ⟨_, rfl⟩
  try rw [← hw5]
  rw [← hnb] at HM5 l4 hz5 ⊢
  clear hw5 hnb
  go_loopw [86] (fun _ wr => Hid (∃ j acc v, Te.CallD w wr b nb L j 0 tt acc v ∧ res = Te.headRes d tt acc (L.drop j) ∧ acc.length ≤ j ∧ nb + 1 ≤ wr.heap.size)) (fun _ wr => L.length - Te.pos wr b)
  case atStart => exact Lib.hid ⟨i + 1 + 1, [], _, HM5.out, HQ.out, Nat.zero_le _, hz5⟩
  case round =>
    obtain ⟨j, acc, v, hM, hE, hAj, hW⟩ := hrel.out
    clear hrel HM5 HQ
    have hjl := hM.rs.1
    have HM := Lib.hid hM
    have HE := Lib.hid hE
    have hac : acc.length ≤ 4096 := by omega
    have HPS := Lib.hid hM.rs.pos
    obtain ⟨A, cp, rfl⟩ := hM.own.form
    clear hM hE
    go_wp2_with fail
    go_at_call 34
    refine (HNX.out 4 j _ 0 HM.out.rs).mono ?_
    rintro e w6 ⟨rfl, hb6⟩
    have HM6 := Lib.hid (HM.out.on hbl l4 hb6)
    have hz6 := hb6.size
    have h04 : (0 : Int) ≤ (j : Int) := by omega
    have p0 : w6.cell? ⟨w.heap.size, 0, none⟩ = some (.int .i64 0) := (HM6.out.out.cell 0).trans rfl; have q0 : w6.frozen? ⟨w.heap.size, 0, none⟩ = false := HM6.out.out.frozen 0; have p1 : w6.cell? ⟨w.heap.size, 1, none⟩ = some (.string ⟨#[]⟩) := (HM6.out.out.cell 1).trans rfl; have q1 : w6.frozen? ⟨w.heap.size, 1, none⟩ = false := HM6.out.out.frozen 1; have p2 : w6.cell? ⟨w.heap.size, 2, none⟩ = some (.int .i64 0) := (HM6.out.out.cell 2).trans rfl; have q2 : w6.frozen? ⟨w.heap.size, 2, none⟩ = false := HM6.out.out.frozen 2; have p3 : w6.cell? ⟨w.heap.size, 3, none⟩ = some (.slice none 0 0) := (HM6.out.out.cell 3).trans rfl; have q3 : w6.frozen? ⟨w.heap.size, 3, none⟩ = false := HM6.out.out.frozen 3
    have x0 : w6.cell? ⟨nb, 0, none⟩ = some (.int .i64 1) := (HM6.out.row.cell 0).trans rfl; have y0 : w6.frozen? ⟨nb, 0, none⟩ = false := HM6.out.row.frozen 0; have x1 : w6.cell? ⟨nb, 1, none⟩ = some (.string ⟨tt.toArray⟩) := (HM6.out.row.cell 1).trans rfl; have y1 : w6.frozen? ⟨nb, 1, none⟩ = false := HM6.out.row.frozen 1; have x2 : w6.cell? ⟨nb, 2, none⟩ = some (.int .i64 0) := (HM6.out.row.cell 2).trans rfl; have y2 : w6.frozen? ⟨nb, 2, none⟩ = false := HM6.out.row.frozen 2; have x3 : w6.cell? ⟨nb, 3, none⟩ = some (.slice A acc.length cp) := (HM6.out.row.cell 3).trans rfl; have y3 : w6.frozen? ⟨nb, 3, none⟩ = false := HM6.out.row.frozen 3
    have z1 := HM6.out.rs.c1.1
    have z2 := HM6.out.rs.c1.2
    have l6 := HM6.out.out.lt
    have l6n := HM6.out.row.lt
    have HV6 : Hid (∀ g, (Value.slice A acc.length cp).ownBlock = some g → g < w6.heap.size) := Lib.hid fun g hg => (HM6.out.own.lt g hg).2
    have hbn : b ≠ nb := by omega
    have hwn : w.heap.size ≠ nb := by omega
    clear hb6
    cases h4 : Te.hd 4 (L.drop j)
    · by_cases ha0 : acc.length = 0
      · have HQ : Hid (res = Te.kidsA d tt acc (L.drop j)) := Lib.hid (by rw [HE.out]; unfold Te.headRes; rw [h4, if_neg (by decide), if_pos ha0])
        have hcz : ¬ (0 : Int) < (acc.length : Int) := by omega
        clear h4 ha0
        have HXQ := Lib.hid (HXC.out (j) w6 HM6.out.rs)
        obtain ⟨rx, hrx⟩ : ∃ rx, rx = Te.expr d (L.drop (j)) := ⟨_, rfl⟩
        rw [← hrx] at HXQ
        have HRX := Lib.hid hrx
        clear hrx
        have HWQ : Hid (nb + 1 ≤ w6.heap.size) := Lib.hid (by omega)
        try go_wp2_with fail
        go_region_law (first | (go_simp; (go_at_call 22; refine (HXQ.out _ (by first | exact Below.refl _ _ | exact Below.drew (Below.refl _ _)) (by rfl)).mono ?_; rintro e wa ⟨k, s, n, ks, Ak, ck, ja, er, rfl, hda, hata, hra⟩; have HMA := Lib.hid (HM6.out.step hbl l4 hda); have HA := Lib.hid hata; have HRA := Lib.hid hra; have hza := hda.kp.size; have hxa3 : wa.cell? ⟨nb, 3, none⟩ = some (.slice A acc.length cp) := (HMA.out.row.cell 3).trans rfl; have lan := HMA.out.row.lt; obtain ⟨xs, hoa, haa⟩ := HMA.out.own; have HBK : Hid (Below wa.heap.size wa (wa.alloc (.cells #[.int .i64 k, .string ⟨s.toArray⟩, .int .i64 n, .slice Ak ks.length ck] 24))) := Lib.hid ((Below.refl _ _).alloc (Nat.le_refl _) _); have HOA : Hid ((wa.alloc (.cells #[.int .i64 k, .string ⟨s.toArray⟩, .int .i64 n, .slice Ak ks.length ck] 24)).ownsRow (nb + 1) 24 4 (.slice A acc.length cp) acc.length xs) := Lib.hid (owns_keep hoa fun g hg => HBK.out.block g (World.ownsRow.lt hoa g hg).2); have HAA : Hid (Te.Ats (wa.alloc (.cells #[.int .i64 k, .string ⟨s.toArray⟩, .int .i64 n, .slice Ak ks.length ck] 24)) (fun i => nb + 1 ≤ i ∧ (Value.slice A acc.length cp).ownBlock ≠ some i) acc xs) := Lib.hid (haa.below HBK.out); have HRD : Hid (Rd (wa.alloc (.cells #[.int .i64 k, .string ⟨s.toArray⟩, .int .i64 n, .slice Ak ks.length ck] 24)) (fun b => b = wa.heap.size) (some ⟨wa.heap.size, 0, none⟩) (Te.cel (.mk k s n ks) (.slice Ak ks.length ck))) := Lib.hid (Rd.fresh wa [.int .i64 k, .string ⟨s.toArray⟩, .int .i64 n, .slice Ak ks.length ck] 24 _ rfl); have HON : Hid (∀ u ∈ Te.cel (.mk k s n ks) (.slice Ak ks.length ck), u.oneCell' = true) := Lib.hid (by intro u hu; simp [Te.cel] at hu; rcases hu with rfl | rfl | rfl | rfl <;> rfl); clear hda hata hra hoa haa)) | (refine step_app _ rfl (.tmp 106) (.tmp 111) 22 rfl (nb + 1) 24 i0 _ 4 56 Tryz.underlying22 HI.out HZ.out.1 HZ.out.2.1 HZ.out.2.2 rfl (by decide) (.slice A acc.length cp) acc.length xs (by first | (simp [Act.eval]; done) | (simp [Act.eval, Act.put]; done)) HOA.out (fun b => b = wa.heap.size) (some ⟨wa.heap.size, 0, none⟩) 1 1 (Te.cel (.mk k s n ks) (.slice Ak ks.length ck)) (by first | (simp [Act.eval]; done) | (simp [Act.eval, Act.put]; done)) (by simp) HRD.out HON.out (by unfold maxLen; omega) (by omega) (by simp; omega) ?_; intro v2 w3 hown2 hg2 hat2 hnil2; obtain ⟨A3, n3, c3, rfl⟩ := own_slice hown2; have HMP := Lib.hid (HMA.out.push (wr := w6) hbl l4 (by omega) HBK.out HOA.out HAA.out HA.out HWQ.out (fun g hg => by have := HV6.out g hg; omega) hown2 hg2 hat2); have hr3 : RowAt w3 nb 24 #[.int .i64 1, .string ⟨tt.toArray⟩, .int .i64 0, .slice A acc.length cp] := (hg2.block nb (by simp; omega) (fun e => by have := (World.ownsRow.lt HOA.out _ e.symm).1; omega)).trans (HMA.out.row.alloc _); have d3 : w3.cell? ⟨nb, 3, none⟩ = some (.slice A acc.length cp) := (hr3.cell 3).trans rfl; have f3 := hr3.frozen 3; have l3 := hr3.lt; clear hown2 hg2 hat2 hnil2 hr3))
        all_goals
          try go_simp
          obtain ⟨w4, hw4⟩ : ∃ w4, w4 = w3.setCell ⟨nb, 3, none⟩ (.slice A3 n3 c3) := ⟨_, rfl⟩
          rw [← hw4] at HMP ⊢
          have hz4 : nb + 1 ≤ w4.heap.size := by rw [hw4, show (w3.setCell ⟨nb, 3, none⟩ (.slice A3 n3 c3)).heap.size = w3.heap.size by simp [World.setCell]]; exact l3
          clear hw4
          have e2 := HMP.out.rs.c2.1
          have lz4 := HMP.out.out.lt
          try clear p0 p1 p2 p3 q0 q1 q2 q3
          have p0 : w4.cell? ⟨w.heap.size, 0, none⟩ = some (.int .i64 0) := (HMP.out.out.cell 0).trans rfl; have q0 : w4.frozen? ⟨w.heap.size, 0, none⟩ = false := HMP.out.out.frozen 0; have p1 : w4.cell? ⟨w.heap.size, 1, none⟩ = some (.string ⟨#[]⟩) := (HMP.out.out.cell 1).trans rfl; have q1 : w4.frozen? ⟨w.heap.size, 1, none⟩ = false := HMP.out.out.frozen 1; have p2 : w4.cell? ⟨w.heap.size, 2, none⟩ = some (.int .i64 0) := (HMP.out.out.cell 2).trans rfl; have q2 : w4.frozen? ⟨w.heap.size, 2, none⟩ = false := HMP.out.out.frozen 2; have p3 : w4.cell? ⟨w.heap.size, 3, none⟩ = some (.slice none 0 0) := (HMP.out.out.cell 3).trans rfl; have q3 : w4.frozen? ⟨w.heap.size, 3, none⟩ = false := HMP.out.out.frozen 3
          rcases HRA.out with ⟨he, hr⟩ | ⟨he, hr⟩
          · have hex := HRX.out.symm.trans hr
            have hlt := Te.expr_eats d _ _ _ hex
            have HQ2 : Hid (res = Te.headRes d tt (acc ++ [.mk k s n ks]) (L.drop ja)) := Lib.hid (by rw [HQ.out]; exact Te.head_ok hex)
            have hja := HMP.out.rs.1
            rw [List.length_drop, List.length_drop] at hlt
            subst he
            go_wp2_with fail
            go_roundw
            case rel => exact Lib.hid ⟨ja, acc ++ [.mk k s n ks], _, HMP.out, HQ2.out, by simp; omega, hz4⟩
            case measure =>
              have h1 := HMP.out.rs.pos
              have h2 := HPS.out
              omega
          · have HQ2 : Hid (res = .error er) := Lib.hid (by rw [HQ.out]; exact Te.kidsA_bad (HRX.out.symm.trans hr))
            have en : (er == 0) = false := by simpa using he
            have HE2 := Lib.hid he
            go_wp2_with fail
            refine bodyPost_ret ((Te.results_c1 rfl _ _ _).trans (by simp [go_sem, *]; rfl)) rfl ?_
            exact ⟨0, [], 0, [], .slice none 0 0, rfl, (((HMP.out.kp.setCell _ (.inl (Nat.le_refl _)) _).setCell _ (.inl (Nat.le_refl _)) _).setCell _ (.inl (Nat.le_refl _)) _).setCell _ (.inl (Nat.le_refl _)) _, .inr ⟨ja, er, HE2.out, HMP.out.rs.far (((((Below.refl _ _).setCell (by show b + 1 ≤ w.heap.size; omega) _).setCell (by show b + 1 ≤ w.heap.size; omega) _).setCell (by show b + 1 ≤ w.heap.size; omega) _ |>.setCell (by show b + 1 ≤ w.heap.size; omega) _)), HQ2.out, rfl, rfl, rfl, rfl, rfl⟩⟩
      · cases h5 : Te.hd 5 (L.drop j)
        · have HQ : Hid (res = .error 8) := Lib.hid (by rw [HE.out]; unfold Te.headRes; rw [h4, if_neg (by decide), if_neg ha0, h5, if_neg (by decide)])
          have hcz : (0 : Int) < (acc.length : Int) := by omega
          clear h4
          go_wp2_with fail
          go_at_call 34
          refine (HNX.out 5 j _ 0 HM6.out.rs).mono ?_
          rintro e w7 ⟨rfl, hb7⟩
          have HM7 := Lib.hid (HM6.out.on hbl l4 hb7)
          rw [h5]
          clear hb7 h5
          go_wp2_with fail
          go_at_call 23
          refine (rbad_any HM7.out.rs 8).mono ?_
          rintro e w8 ⟨rfl, hd8⟩
          have HM8 := Lib.hid (HM7.out.step hbl l4 hd8)
          clear hd8 p0 p1 p2 p3 q0 q1 q2 q3 l6
          have p0 : w8.cell? ⟨w.heap.size, 0, none⟩ = some (.int .i64 0) := (HM8.out.out.cell 0).trans rfl; have q0 : w8.frozen? ⟨w.heap.size, 0, none⟩ = false := HM8.out.out.frozen 0; have p1 : w8.cell? ⟨w.heap.size, 1, none⟩ = some (.string ⟨#[]⟩) := (HM8.out.out.cell 1).trans rfl; have q1 : w8.frozen? ⟨w.heap.size, 1, none⟩ = false := HM8.out.out.frozen 1; have p2 : w8.cell? ⟨w.heap.size, 2, none⟩ = some (.int .i64 0) := (HM8.out.out.cell 2).trans rfl; have q2 : w8.frozen? ⟨w.heap.size, 2, none⟩ = false := HM8.out.out.frozen 2; have p3 : w8.cell? ⟨w.heap.size, 3, none⟩ = some (.slice none 0 0) := (HM8.out.out.cell 3).trans rfl; have q3 : w8.frozen? ⟨w.heap.size, 3, none⟩ = false := HM8.out.out.frozen 3
          have l8 := HM8.out.out.lt
          go_wp2_with fail
          refine bodyPost_ret ((Te.results_c1 rfl _ _ _).trans (by simp [go_sem, *]; rfl)) rfl ?_
          exact ⟨0, [], 0, [], .slice none 0 0, rfl, (((HM8.out.kp.setCell _ (.inl (Nat.le_refl _)) _).setCell _ (.inl (Nat.le_refl _)) _).setCell _ (.inl (Nat.le_refl _)) _).setCell _ (.inl (Nat.le_refl _)) _, .inr ⟨j, 8, by decide, HM8.out.rs.far (((((Below.refl _ _).setCell (by show b + 1 ≤ w.heap.size; omega) _).setCell (by show b + 1 ≤ w.heap.size; omega) _).setCell (by show b + 1 ≤ w.heap.size; omega) _ |>.setCell (by show b + 1 ≤ w.heap.size; omega) _)), HQ.out, rfl, rfl, rfl, rfl, rfl⟩⟩
        · have HQ : Hid (res = Te.kidsA d tt acc (L.drop (j + 1))) := Lib.hid (by rw [HE.out]; unfold Te.headRes; rw [h4, if_neg (by decide), if_neg ha0, h5, if_pos rfl, List.drop_drop])
          have hcz : (0 : Int) < (acc.length : Int) := by omega
          obtain ⟨hjlt, _, _⟩ := Te.hd_at h5
          have HJ := Lib.hid hjlt
          clear h4
          go_wp2_with fail
          go_at_call 34
          refine (HNX.out 5 j _ 0 HM6.out.rs).mono ?_
          rintro e w7 ⟨rfl, hb7⟩
          have HM7 := Lib.hid (HM6.out.on hbl l4 hb7)
          rw [h5]
          have hz7 := hb7.size
          clear hb7 h5 x0 x1 x2 x3 y0 y1 y2 y3 z1 z2 p0 p1 p2 p3 q0 q1 q2 q3 l6 l6n
          have z1 := HM7.out.rs.c1.1
          have z2 := HM7.out.rs.c1.2
          have kj : IntKind.i64.wrap ((j : Int) + 1) = (j : Int) + 1 := IntWalk.i64_in _ (by omega)
          obtain ⟨w9, hw9⟩ : ∃ w9, w9 = w7.setCell ⟨b, 1, none⟩ (.int .i64 ((j : Int) + 1)) := ⟨_, rfl⟩
          have HM9 : Hid (Te.CallD w w9 b nb L (j + 1) 0 tt acc (.slice A acc.length cp)) := Lib.hid (HM7.out.step hbl l4 ⟨by rw [hw9]; exact HM7.out.rs.setI (j + 1) HJ.out _ (by omega), by rw [hw9]; exact (Kp.refl (fun i => i = b) w7).setCell ⟨b, 1, none⟩ (.inr rfl) _⟩)
          have hz9 : w6.heap.size ≤ w9.heap.size := by rw [hw9]; simpa using hz7
          go_wp2_with fail
          rw [← hw9]
          clear hw9 z1 z2
          have x0 : w9.cell? ⟨nb, 0, none⟩ = some (.int .i64 1) := (HM9.out.row.cell 0).trans rfl; have y0 : w9.frozen? ⟨nb, 0, none⟩ = false := HM9.out.row.frozen 0; have x1 : w9.cell? ⟨nb, 1, none⟩ = some (.string ⟨tt.toArray⟩) := (HM9.out.row.cell 1).trans rfl; have y1 : w9.frozen? ⟨nb, 1, none⟩ = false := HM9.out.row.frozen 1; have x2 : w9.cell? ⟨nb, 2, none⟩ = some (.int .i64 0) := (HM9.out.row.cell 2).trans rfl; have y2 : w9.frozen? ⟨nb, 2, none⟩ = false := HM9.out.row.frozen 2; have x3 : w9.cell? ⟨nb, 3, none⟩ = some (.slice A acc.length cp) := (HM9.out.row.cell 3).trans rfl; have y3 : w9.frozen? ⟨nb, 3, none⟩ = false := HM9.out.row.frozen 3
          have l6n := HM9.out.row.lt
          have l6 := HM9.out.out.lt
          have HXQ := Lib.hid (HXC.out (j + 1) w9 HM9.out.rs)
          obtain ⟨rx, hrx⟩ : ∃ rx, rx = Te.expr d (L.drop (j + 1)) := ⟨_, rfl⟩
          rw [← hrx] at HXQ
          have HRX := Lib.hid hrx
          clear hrx
          have HWQ : Hid (nb + 1 ≤ w9.heap.size) := Lib.hid (by omega)
          try go_wp2_with fail
          go_region_law (first | (go_simp; (go_at_call 22; refine (HXQ.out _ (by first | exact Below.refl _ _ | exact Below.drew (Below.refl _ _)) (by rfl)).mono ?_; rintro e wa ⟨k, s, n, ks, Ak, ck, ja, er, rfl, hda, hata, hra⟩; have HMA := Lib.hid (HM9.out.step hbl l4 hda); have HA := Lib.hid hata; have HRA := Lib.hid hra; have hza := hda.kp.size; have hxa3 : wa.cell? ⟨nb, 3, none⟩ = some (.slice A acc.length cp) := (HMA.out.row.cell 3).trans rfl; have lan := HMA.out.row.lt; obtain ⟨xs, hoa, haa⟩ := HMA.out.own; have HBK : Hid (Below wa.heap.size wa (wa.alloc (.cells #[.int .i64 k, .string ⟨s.toArray⟩, .int .i64 n, .slice Ak ks.length ck] 24))) := Lib.hid ((Below.refl _ _).alloc (Nat.le_refl _) _); have HOA : Hid ((wa.alloc (.cells #[.int .i64 k, .string ⟨s.toArray⟩, .int .i64 n, .slice Ak ks.length ck] 24)).ownsRow (nb + 1) 24 4 (.slice A acc.length cp) acc.length xs) := Lib.hid (owns_keep hoa fun g hg => HBK.out.block g (World.ownsRow.lt hoa g hg).2); have HAA : Hid (Te.Ats (wa.alloc (.cells #[.int .i64 k, .string ⟨s.toArray⟩, .int .i64 n, .slice Ak ks.length ck] 24)) (fun i => nb + 1 ≤ i ∧ (Value.slice A acc.length cp).ownBlock ≠ some i) acc xs) := Lib.hid (haa.below HBK.out); have HRD : Hid (Rd (wa.alloc (.cells #[.int .i64 k, .string ⟨s.toArray⟩, .int .i64 n, .slice Ak ks.length ck] 24)) (fun b => b = wa.heap.size) (some ⟨wa.heap.size, 0, none⟩) (Te.cel (.mk k s n ks) (.slice Ak ks.length ck))) := Lib.hid (Rd.fresh wa [.int .i64 k, .string ⟨s.toArray⟩, .int .i64 n, .slice Ak ks.length ck] 24 _ rfl); have HON : Hid (∀ u ∈ Te.cel (.mk k s n ks) (.slice Ak ks.length ck), u.oneCell' = true) := Lib.hid (by intro u hu; simp [Te.cel] at hu; rcases hu with rfl | rfl | rfl | rfl <;> rfl); clear hda hata hra hoa haa)) | (refine step_app _ rfl (.tmp 106) (.tmp 111) 22 rfl (nb + 1) 24 i0 _ 4 56 Tryz.underlying22 HI.out HZ.out.1 HZ.out.2.1 HZ.out.2.2 rfl (by decide) (.slice A acc.length cp) acc.length xs (by first | (simp [Act.eval]; done) | (simp [Act.eval, Act.put]; done)) HOA.out (fun b => b = wa.heap.size) (some ⟨wa.heap.size, 0, none⟩) 1 1 (Te.cel (.mk k s n ks) (.slice Ak ks.length ck)) (by first | (simp [Act.eval]; done) | (simp [Act.eval, Act.put]; done)) (by simp) HRD.out HON.out (by unfold maxLen; omega) (by omega) (by simp; omega) ?_; intro v2 w3 hown2 hg2 hat2 hnil2; obtain ⟨A3, n3, c3, rfl⟩ := own_slice hown2; have HMP := Lib.hid (HMA.out.push (wr := w9) hbl l4 (by omega) HBK.out HOA.out HAA.out HA.out HWQ.out (fun g hg => by have := HV6.out g hg; omega) hown2 hg2 hat2); have hr3 : RowAt w3 nb 24 #[.int .i64 1, .string ⟨tt.toArray⟩, .int .i64 0, .slice A acc.length cp] := (hg2.block nb (by simp; omega) (fun e => by have := (World.ownsRow.lt HOA.out _ e.symm).1; omega)).trans (HMA.out.row.alloc _); have d3 : w3.cell? ⟨nb, 3, none⟩ = some (.slice A acc.length cp) := (hr3.cell 3).trans rfl; have f3 := hr3.frozen 3; have l3 := hr3.lt; clear hown2 hg2 hat2 hnil2 hr3))
          all_goals
            try go_simp
            obtain ⟨w4, hw4⟩ : ∃ w4, w4 = w3.setCell ⟨nb, 3, none⟩ (.slice A3 n3 c3) := ⟨_, rfl⟩
            rw [← hw4] at HMP ⊢
            have hz4 : nb + 1 ≤ w4.heap.size := by rw [hw4, show (w3.setCell ⟨nb, 3, none⟩ (.slice A3 n3 c3)).heap.size = w3.heap.size by simp [World.setCell]]; exact l3
            clear hw4
            have e2 := HMP.out.rs.c2.1
            have lz4 := HMP.out.out.lt
            try clear p0 p1 p2 p3 q0 q1 q2 q3
            have p0 : w4.cell? ⟨w.heap.size, 0, none⟩ = some (.int .i64 0) := (HMP.out.out.cell 0).trans rfl; have q0 : w4.frozen? ⟨w.heap.size, 0, none⟩ = false := HMP.out.out.frozen 0; have p1 : w4.cell? ⟨w.heap.size, 1, none⟩ = some (.string ⟨#[]⟩) := (HMP.out.out.cell 1).trans rfl; have q1 : w4.frozen? ⟨w.heap.size, 1, none⟩ = false := HMP.out.out.frozen 1; have p2 : w4.cell? ⟨w.heap.size, 2, none⟩ = some (.int .i64 0) := (HMP.out.out.cell 2).trans rfl; have q2 : w4.frozen? ⟨w.heap.size, 2, none⟩ = false := HMP.out.out.frozen 2; have p3 : w4.cell? ⟨w.heap.size, 3, none⟩ = some (.slice none 0 0) := (HMP.out.out.cell 3).trans rfl; have q3 : w4.frozen? ⟨w.heap.size, 3, none⟩ = false := HMP.out.out.frozen 3
            rcases HRA.out with ⟨he, hr⟩ | ⟨he, hr⟩
            · have hex := HRX.out.symm.trans hr
              have hlt := Te.expr_eats d _ _ _ hex
              have HQ2 : Hid (res = Te.headRes d tt (acc ++ [.mk k s n ks]) (L.drop ja)) := Lib.hid (by rw [HQ.out]; exact Te.head_ok hex)
              have hja := HMP.out.rs.1
              rw [List.length_drop, List.length_drop] at hlt
              subst he
              go_wp2_with fail
              go_roundw
              case rel => exact Lib.hid ⟨ja, acc ++ [.mk k s n ks], _, HMP.out, HQ2.out, by simp; omega, hz4⟩
              case measure =>
                have h1 := HMP.out.rs.pos
                have h2 := HPS.out
                omega
            · have HQ2 : Hid (res = .error er) := Lib.hid (by rw [HQ.out]; exact Te.kidsA_bad (HRX.out.symm.trans hr))
              have en : (er == 0) = false := by simpa using he
              have HE2 := Lib.hid he
              go_wp2_with fail
              refine bodyPost_ret ((Te.results_c1 rfl _ _ _).trans (by simp [go_sem, *]; rfl)) rfl ?_
              exact ⟨0, [], 0, [], .slice none 0 0, rfl, (((HMP.out.kp.setCell _ (.inl (Nat.le_refl _)) _).setCell _ (.inl (Nat.le_refl _)) _).setCell _ (.inl (Nat.le_refl _)) _).setCell _ (.inl (Nat.le_refl _)) _, .inr ⟨ja, er, HE2.out, HMP.out.rs.far (((((Below.refl _ _).setCell (by show b + 1 ≤ w.heap.size; omega) _).setCell (by show b + 1 ≤ w.heap.size; omega) _).setCell (by show b + 1 ≤ w.heap.size; omega) _ |>.setCell (by show b + 1 ≤ w.heap.size; omega) _)), HQ2.out, rfl, rfl, rfl, rfl, rfl⟩⟩
    · obtain ⟨hjlt, _, _⟩ := Te.hd_at h4
      have HQ : Hid (res = .ok (.mk 1 tt 0 acc, L.drop (j + 1))) := Lib.hid (by rw [HE.out]; unfold Te.headRes; rw [h4, if_pos rfl, List.drop_drop])
      have HJ := Lib.hid hjlt
      have kj : IntKind.i64.wrap ((j : Int) + 1) = (j : Int) + 1 := IntWalk.i64_in _ (by omega)
      clear h4
      go_wp2_with fail
      refine bodyPost_ret ((Te.results_c1 rfl _ _ _).trans (by simp [go_sem, *]; rfl)) rfl ?_
      refine ⟨1, tt, 0, acc, .slice A acc.length cp, rfl, ?_, .inl ⟨j + 1, ?_, HQ.out, ?_⟩⟩
      · exact ((((HM6.out.kp.setCell ⟨b, 1, none⟩ (.inr rfl) _).setCell _ (.inl (Nat.le_refl _)) _).setCell _ (.inl (Nat.le_refl _)) _).setCell _ (.inl (Nat.le_refl _)) _).setCell _ (.inl (Nat.le_refl _)) _
      · exact (HM6.out.rs.setI (j + 1) HJ.out _ (by omega)).far (((((Below.refl _ _).setCell (by show b + 1 ≤ w.heap.size; omega) _).setCell (by show b + 1 ≤ w.heap.size; omega) _).setCell (by show b + 1 ≤ w.heap.size; omega) _ |>.setCell (by show b + 1 ≤ w.heap.size; omega) _))
      · have k9 : Kp (fun i => i < nb + 1) w6 (((((w6.setCell ⟨b, 1, none⟩ (.int .i64 ((j : Int) + 1))).setCell ⟨w.heap.size, 0, none⟩ (.int .i64 1)).setCell ⟨w.heap.size, 1, none⟩ (.string ⟨tt.toArray⟩)).setCell ⟨w.heap.size, 2, none⟩ (.int .i64 0)).setCell ⟨w.heap.size, 3, none⟩ (.slice A acc.length cp)) :=
          (((((Kp.refl (fun i => i < nb + 1) w6).setCell ⟨b, 1, none⟩ (.inr (by show b < _; omega)) _).setCell ⟨w.heap.size, 0, none⟩ (.inr (by show w.heap.size < _; omega)) _).setCell ⟨w.heap.size, 1, none⟩ (.inr (by show w.heap.size < _; omega)) _).setCell ⟨w.heap.size, 2, none⟩ (.inr (by show w.heap.size < _; omega)) _).setCell ⟨w.heap.size, 3, none⟩ (.inr (by show w.heap.size < _; omega)) _
        exact (((HM6.out.own.at_ 1 tt 0).kp k9 fun i _ hi e => by have hi : nb + 1 ≤ i := hi; have e : i < nb + 1 := e; omega)).mono fun i _ hi => by have hi : nb + 1 ≤ i := hi; show w.heap.size ≤ i; omega

theorem rexpr_succ {c : Int} {d : Nat} (c0 : 0 ≤ c) (c1 : c ≤ 63) (hX : Te.RexC (c + 1) d) : Te.RexC c (d + 1) := by
  intro L i b w hl h
  cases h2 : Te.hd 2 (L.drop i)
  · cases h1 : Te.hd 1 (L.drop i)
    · exact rexpr_bad c0 c1 L i b w hl h h2 h1
    · obtain ⟨hlt, _, _⟩ := Te.hd_at h1
      cases h3 : Te.hd 3 (L.drop (i + 1))
      · cases hw : Te.word L[i].2 with
        | none => exact rexpr_w2 c0 c1 L i b w hl h h2 h1 h3 (fun _ => hw)
        | some nd => exact rexpr_w1 c0 c1 L i b w hl h h2 h1 h3 (fun _ => hw)
      · cases hi : Lx.identOf L[i].2
        · cases hw : Te.word L[i].2 with
          | none => exact rexpr_w4 c0 c1 L i b w hl h h2 h1 h3 (fun _ => hi) (fun _ => hw)
          | some nd => exact rexpr_w3 c0 c1 L i b w hl h h2 h1 h3 (fun _ => hi) (fun _ => hw)
        · exact rexpr_call c0 c1 L i b w hl h hX h2 h1 h3 (fun _ => hi)
  · exact rexpr_str c0 c1 L i b w hl h h2
/-- The document's expr, for every list of tokens, within any number of calls. -/
theorem rexpr_any : ∀ d : Nat, d ≤ 64 → Te.RexC (64 - (d : Int)) d
  | 0, _ => rexpr_zero
  | d + 1, h => by
    refine rexpr_succ (by omega) (by omega) ?_
    have := rexpr_any d (by omega)
    rwa [show (64 - ((d + 1 : Nat) : Int)) + 1 = 64 - (d : Int) by omega]
end Go.Proofs.YtojmcndiooiehaaGreatDoor
