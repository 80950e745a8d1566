/- VrDoes VrFs -/
import Derived.Test.YtljlanhpjpjgaaaGreatDoorJ1
import Derived.Laws.CopyOwn
import Derived.Deep.RegionLaw
namespace Go.Proofs.YtljlanhpjpjgaaaGreatDoor
set_option maxRecDepth 100000
set_option maxHeartbeats 8000000
section
open Go.RowKit
open Me
namespace Vf
theorem FlC.keep {w w' : World} {G : Nat → Prop} (hs : w.heap.size ≤ w'.heap.size) (hk : ∀ i, i < w.heap.size → G i → w'.heap[i]? = w.heap[i]?) (f : Fl) (cs : List Value) (h : FlC w G f cs) : FlC w' G f cs := by
 obtain ⟨v, e, hb⟩ := h
 exact ⟨v, e, hb.keep hs hk⟩
theorem FlC.wide {w : World} {G G' : Nat → Prop} (hG : ∀ i, i < w.heap.size → G i → G' i) (f : Fl) (cs : List Value) (h : FlC w G f cs) : FlC w G' f cs := by
 obtain ⟨v, e, hb⟩ := h
 exact ⟨v, e, hb.mono hG⟩
theorem FlC.cellOne {w : World} {G : Nat → Prop} {f : Fl} {cs : List Value} (h : FlC w G f cs) : ∀ u ∈ cs, u.oneCell' = true := by
 obtain ⟨v, rfl, A, c, rfl, _⟩ := h
 intro u hu
 simp at hu
 rcases hu with rfl | rfl <;> rfl
def MadeF (G : Nat → Prop) (w : World) (l : List Fl) (e : Ending) (w' : World) : Prop := ∃ v, e = .returned v ∧ Fs w' (fun i => G i ∨ w.heap.size ≤ i) v l ∧ Below w.heap.size w w'
def AcC (w : World) (G : Nat → Prop) (a : Ac) (cs : List Value) : Prop := ∃ v, cs = [.int .i64 a.kind, .string ⟨a.name.toArray⟩, .int .i64 (a.off : Int), v] ∧ Bs w G v a.p
def fits (l : List Fl) (a : Ac) : Prop := a.kind = 2 → ∀ (k : Nat) (h : k < l.length), (k : Int) = ix l a.name → a.off + a.p.length ≤ l[k].b.length
theorem Fs.own {w : World} {base : Nat} {e : TypeId} {v : Value} {l : List Fl} {xs : List Value} {G : Nat → Prop} (h : w.ownsRow base e 2 v l.length xs) (hG : ∀ i, base ≤ i → G i) (hE : Els (FlC w G) l xs) : Fs w G v l := by
 have h0 := h
 rcases h.2 with ⟨hv, hz⟩ | ⟨g, cap, cur, hv, hb, hg, hnc, hcm, hcs, ht⟩
 ·have hl : l = [] := List.eq_nil_of_length_eq_zero hz
  subst hl
  exact ⟨none, 0, xs, hv, Nat.le_refl _, Nat.zero_le _, by rw [show xs = [] from hE]; exact Rd.none_ _ _ _, hE⟩
 ·refine ⟨some ⟨g, 0, none⟩, cap, xs, hv, hnc, hcm, ?_, hE⟩
  rw [hv] at h0
  refine (Rd.own h0).mono fun i _ hi => ?_
  have : g = i := by simpa [Value.ownBlock] using hi
  exact hG i (by omega)
end Vf
theorem rel_next {wr W w1 : World} {mv v1 : Value} {B0 : Nat} {ys cs : List Value} {gs : List Vf.Fl} {f : Vf.Fl} {G I J : Nat → Prop}
 (hrow : ∀ g, mv.ownBlock = some g → ¬ I g) (hys : Els (Vf.FlC wr I) gs ys)
 (hWs : wr.heap.size ≤ W.heap.size) (hW : ∀ b, b < wr.heap.size → mv.ownBlock ≠ some b → W.heap[b]? = wr.heap[b]?)
 (hg1 : W.grownBy w1 mv.ownBlock) (hat1 : v1.ownBlock = mv.ownBlock ∨ v1.ownBlock = some W.heap.size)
 (hJ : ∀ b, J b → b < W.heap.size ∧ (G b ∨ B0 ≤ b)) (hJrow : ∀ g, mv.ownBlock = some g → ¬ J g) (hIJ : ∀ b, I b → J b) (hf : Vf.FlC W J f cs) :
 Els (Vf.FlC w1 J) (gs ++ [f]) (ys ++ cs) ∧ (∀ b, J b → b < w1.heap.size ∧ (G b ∨ B0 ≤ b)) ∧ (∀ g, v1.ownBlock = some g → ¬ J g) := by
 have k2 : ∀ i, i < W.heap.size → J i → w1.heap[i]? = W.heap[i]? := fun i hi hj => hg1.block i hi (fun e => hJrow i e.symm hj)
 refine ⟨Els.append (hys.mono fun f cs h => ?_) (Els.one (hf.keep hg1.size k2)), fun b hb => ⟨Nat.lt_of_lt_of_le (hJ b hb).1 hg1.size, (hJ b hb).2⟩, fun g hg hj => ?_⟩
 ·have h1 := h.keep (w' := W) hWs (fun i hi hii => hW i hi (fun e => hrow i e hii))
  exact (h1.wide (fun i _ hii => hIJ i hii)).keep hg1.size k2
 ·rcases hat1 with e | e
  ·exact hJrow g (e ▸ hg) hj
  ·rw [e] at hg
   have := (hJ g hj).1
   have := Option.some.inj hg
   omega
theorem splice_take {α : Type} {L cs : List α} {off n : Nat} (h : off + cs.length ≤ n) (hn : n ≤ L.length) : (splice L off cs).take n = (L.take n).take off ++ (cs ++ (L.take n).drop (off + cs.length)) := by
 unfold splice
 have e1 : (L.take off).take n = L.take off := List.take_of_length_le (by rw [List.length_take]; omega)
 have e0 : (L.take off).length = off := by rw [List.length_take]; omega
 have e2 : cs.take (n - off) = cs := List.take_of_length_le (by omega)
 rw [List.take_append, e1, e0, List.take_append, e2, List.take_take, Nat.min_eq_left (by omega), List.drop_take]
 congr 3
 omega
theorem by8_take (l : List UInt8) (k : Nat) : (by8 l).take k = by8 (l.take k) := by unfold by8; simp
theorem by8_drop (l : List UInt8) (k : Nat) : (by8 l).drop k = by8 (l.drop k) := by unfold by8; simp
theorem bytes_spliced {W : World} {g cap off : Nat} {e : TypeId} {L : List Value} {b p : List UInt8} (hh : W.heap[g]? = some (.cells (splice L off (by8 p)).toArray e (0, 0))) (htk : L.take b.length = by8 b)
 (hL : b.length ≤ L.length) (hoff : off + p.length ≤ b.length) (hc : b.length ≤ cap) (hcm : cap ≤ maxLen) : Bs W (fun i => i = g) (.slice (some ⟨g, 0, none⟩) b.length cap) (Vf.upd b off p) := by
 have hl := Vf.upd_len hoff
 refine ⟨some ⟨g, 0, none⟩, cap, by rw [hl], by rw [hl]; exact hc, hcm, fun _ => ⟨_, rfl, (Array.getElem?_eq_some_iff.1 hh).1, rfl, fun j u hu => ?_⟩⟩
 have hj : j < b.length := by
  have := (List.getElem?_eq_some_iff.1 hu).1
  rwa [by8_len, hl] at this
 rw [Addr.add_lit, Nat.zero_add, cell_of_row W g j _ e (0, 0) hh, List.getElem?_toArray]
 have e1 : (splice L off (by8 p)).take b.length = by8 (Vf.upd b off p) := by
  rw [splice_take (by rw [by8_len]; exact hoff) hL, htk, by8_len, by8_take, by8_drop]
  unfold Vf.upd
  rw [List.append_assoc, by8_append, by8_append]
 rw [← e1, List.getElem?_take, if_pos hj] at hu
 exact hu
theorem owns_empty (w : World) (e : TypeId) (n : Nat) (hn : n = w.heap.size) : (w.alloc (.cells #[] e)).ownsRow n e 1 (.slice (some ⟨n, 0, none⟩) 0 0) 0 [] := by
 subst hn
 exact ⟨by simp, .inr ⟨w.heap.size, 0, #[], rfl, Nat.le_refl _, heap_alloc_new w _, Nat.le_refl _, Nat.zero_le _, rfl, by simp⟩⟩
theorem rd_two {w : World} {G : Nat → Prop} {A : Option Addr} {xs : List Value} (h : Rd w G A xs) (o o' : Obj) : Rd ((w.alloc o).alloc o') G A xs :=
 (h.keep (w' := w.alloc o) (by simp) (fun i hi _ => Below.heap_alloc w o i hi)).keep (by simp) (fun i hi _ => Below.heap_alloc _ o' i hi)
theorem flinfo : (Tryz.prog.info? 91).map (fun i => (i.zero, i.size, i.bytes)) = some (some (.agg #[.string ⟨#[]⟩, .slice none 0 0]), 2, 40) := by kernel_rfl
theorem does_any (l : List Vf.Fl) (a : Vf.Ac) (v pv : Value) (G : Nat → Prop) (w : World) (hf : Vf.Fs w G v l) (hp : Bs w G pv a.p) (hl : l.length ≤ 1048576) (hfit : Hid (Vf.fits l a)) (hb : Hid (∀ f ∈ l, f.b.length ≤ 4294967296)) (ho : a.off ≤ 4294967296) :
 Calls Tryz.prog 89 #[v, .agg #[.int .i64 a.kind, .string ⟨a.name.toArray⟩, .int .i64 (a.off : Int), pv]] w (Vf.MadeF G w (Vf.does l a)) := by
 obtain ⟨i0, hi0, hz0, hz1, hz2⟩ := info_parts flinfo
 have HI := Lib.hid hi0
 have HZ := Lib.hid (And.intro hz0 (And.intro hz1 hz2))
 clear hi0 hz0 hz1 hz2
 obtain ⟨j0, hj0, hy0, hy1, hy2⟩ := info_parts u8info
 have HJ := Lib.hid hj0
 have HY := Lib.hid (And.intro hy0 (And.intro hy1 hy2))
 clear hj0 hy0 hy1 hy2
 have HFD := Lib.hid (fun W (h : Vf.Fs W G v l) => find_any l a.name v G W h hl)
 obtain ⟨i1, i2⟩ := Vf.ix_bd l a.name
 have HDO : Hid (Vf.does l a = Vf.goes a (Vf.ix l a.name) 0 l ++ if a.kind = 1 then [⟨a.name, a.p⟩] else []) := Lib.hid rfl
 have HFI : Hid (a.kind = 2 → ∀ (k : Nat) (h : k < l.length), (k : Int) = Vf.ix l a.name → a.off + a.p.length ≤ l[k].b.length) := hfit
 have hf1 : Vf.Fs (w.alloc (.cells #[.int .i64 a.kind, .string ⟨a.name.toArray⟩, .int .i64 (a.off : Int), pv] 118)) G v l := by
  obtain ⟨A, c, xs, e, h1, h2, h3, h4⟩ := hf
  have hs : w.heap.size ≤ (w.alloc (.cells #[.int .i64 a.kind, .string ⟨a.name.toArray⟩, .int .i64 (a.off : Int), pv] 118)).heap.size := by simp
  exact ⟨A, c, xs, e, h1, h2, h3.keep hs (fun i hi _ => Below.heap_alloc w _ i hi), h4.mono fun f cs hc => hc.keep hs (fun i hi _ => Below.heap_alloc w _ i hi)⟩
 have HF1 := Lib.hid (HFD.out _ hf1)
 obtain ⟨A, c, xs, rfl, hc, hcm, hrd, hels⟩ := hf
 unfold maxLen at hcm
 have HR := Lib.hid hrd
 have HE : Hid (Els (Vf.FlC w (fun b => G b ∧ b < w.heap.size)) l xs) := Lib.hid (hels.mono fun f cs h => h.wide (fun i hi hg => ⟨hg, hi⟩))
 have HP : Hid (Bs w (fun b => G b ∧ b < w.heap.size) pv a.p) := Lib.hid (hp.mono (fun i hi hg => ⟨hg, hi⟩))
 obtain ⟨Ap, cp, rfl, hcp, hcpm, hrdp⟩ := hp
 unfold maxLen at hcpm
 have hl' : (l.length : Int) ≤ 1048576 := by omega
 clear hrd hels hf1 HFD hrdp hfit
 generalize Vf.ix l a.name = i at *
 go_enter Tryz.func89, Tryz.ntmps89
 go_wp2_with (first | (go_at_call 35; go_must (refine (HF1.out).mono ?_; rintro e w' ⟨rfl, rfl⟩)))
 go_loopw [6, 7] (fun m j wr => ∃ (k : Nat) (mv : Value) (ys : List Value) (I : Nat → Prop), k ≤ l.length ∧ j = .int .i64 k ∧ mv = m ∧ Hid (wr.ownsRow (w.heap.size + 1) 91 2 mv (Vf.goes a i 0 (l.take k)).length ys) ∧ Hid (Els (Vf.FlC wr I) (Vf.goes a i 0 (l.take k)) ys) ∧ Hid (∀ b, I b → b < wr.heap.size ∧ (G b ∨ w.heap.size ≤ b)) ∧ Hid (∀ g, mv.ownBlock = some g → ¬ I g) ∧ Below (w.heap.size + 1) (w.alloc (.cells #[.int .i64 a.kind, .string ⟨a.name.toArray⟩, .int .i64 (a.off : Int), .slice Ap a.p.length cp] 118)) wr) (fun _ j _ => l.length - (intOf j).toNat)
 case atStart => exact ⟨0, _, [], fun _ => False, Nat.zero_le _, rfl, rfl, Lib.hid (World.ownsRow_nil _ _ _ _), Lib.hid rfl, Lib.hid (fun _ h => h.elim), Lib.hid (fun _ _ h => h), Below.refl _ _⟩
 case round =>
  obtain ⟨k, mv, ys, I, hk, rfl, rfl, hown, hys, hI, hrow, hbel⟩ := hrel
  by_cases hlt : k < l.length
  ·have hbw : Below w.heap.size w wr := ((Below.refl _ _).alloc (Nat.le_refl _) _).trans (hbel.mono (by omega))
   have hE : Els (Vf.FlC wr (fun b => G b ∧ b < w.heap.size)) l xs := HE.out.mono fun f cs h => h.keep hbw.size (fun i hi _ => hbw.block i hi)
   have hR := HR.out.below hbw
   obtain ⟨cs, hcs, hx⟩ := hE.get Vf.FlC.two k hlt
   have hxl := hE.length Vf.FlC.two
   obtain ⟨rb, ro, rfl, hlt2, hg, hcell⟩ := hR.lit (k * 2) (by omega)
   have hone := Lib.hid hcs.cellOne
   have HCS := Lib.hid hcs
   obtain ⟨bv, rfl, hbs⟩ := hcs
   have hbs2 : w.heap.size < wr.heap.size := by have := hbel.size; simp at this; omega
   have HBS := Lib.hid hbs
   obtain ⟨A2, c2, rfl, hc2, hcm2, hrd2⟩ := hbs
   have HRD2 := Lib.hid hrd2
   unfold maxLen at hcm2
   have hcl : wr.cell? ⟨rb, ro + k * 2, none⟩ = some (.string ⟨(l[k].name).toArray⟩) := hcell _ _ (hx 0 (by omega))
   have hcl2 : wr.cell? ⟨rb, ro + k * 2 + 1, none⟩ = some (.slice A2 (l[k].b).length c2) := by have := hcell _ _ (hx 1 (by omega)); rwa [← Nat.add_assoc] at this
   have ca : ∀ o u, (#[Value.int .i64 a.kind, .string ⟨a.name.toArray⟩, .int .i64 (a.off : Int), .slice Ap a.p.length cp])[o]? = some u → wr.cell? ⟨w.heap.size, o, none⟩ = some u := by
    intro o u hu
    rw [hbel.cell (p := ⟨w.heap.size, o, none⟩) (by simp), World.cell?_alloc_new]
    exact hu
   have ca0 := ca 0 _ rfl
   have ca1 := ca 1 _ rfl
   have ca2 := ca 2 _ rfl
   have ca3 := ca 3 _ rfl
   clear hE hR hx hxl hcell ca hrd2
   by_cases hki : (k : Int) = i
   ·have hkb : ((k : Int) == i) = true := by simpa using hki
    have hkb2 : ((k : Int) != i) = false := by simpa using hki
    by_cases h2 : a.kind = 2
    ·have hk2 : (a.kind == 2) = true := by simpa using h2
     have hk3' : (a.kind != 3) = true := by rw [h2]; rfl
     have hk3 : (a.kind == 3) = false := by rw [h2]; rfl
     have hG : Hid (Vf.goes a i 0 (l.take (k + 1)) = Vf.goes a i 0 (l.take k) ++ [⟨l[k].name, Vf.upd l[k].b a.off a.p⟩]) := Lib.hid (by rw [Vf.goes_take a i l k hlt]; unfold Vf.one; rw [if_pos ⟨hki, h2⟩])
     have hfits := HFI.out h2 k hlt hki
     have hnb := hb.out l[k] (List.getElem_mem hlt)
     have HKI := Lib.hid hki
     clear hki h2
     go_wp2_with (at_builtin; refine wpList_app _ rfl (.tmp 32) (.tmp 34) 45 rfl (wr.heap.size + 1) 5 j0 (.int .u8 0) 1 1 Tryz.underlying45 HJ.out HY.out.1 HY.out.2.1 HY.out.2.2 rfl (by decide) (.slice (some ⟨wr.heap.size + 1, 0, none⟩) 0 0) 0 [] rfl (owns_empty _ _ _ (by simp)) (fun b => G b ∧ b < w.heap.size) A2 (l[k].b).length c2 (by8 l[k].b) rfl (by rw [by8_len]; omega) (rd_two HRD2.out _ _) (by8_one _) (by unfold maxLen; omega) (by omega) (by simp) ?_; intro v1 w1 hown1 hg1 hat1 hnil1)
     obtain ⟨g, cap, cur, hv1, hg0, hgv, hnc, hcm1, hcs1, htk⟩ : ∃ g cap cur, v1 = .slice (some ⟨g, 0, none⟩) (l[k].b).length cap ∧ wr.heap.size + 1 ≤ g ∧ w1.heap[g]? = some (.cells cur 5 (0, 0)) ∧ (l[k].b).length ≤ cap ∧ cap ≤ maxLen ∧ cur.size = cap ∧ cur.toList.take (l[k].b).length = by8 l[k].b := by
      rcases hown1.2 with ⟨hv, _⟩ | ⟨g, cap, cur, hv, h1, h2, h3, h4, h5, h6⟩
      ·exact absurd (hnil1 hv) (by simp)
      ·exact ⟨g, cap, cur, by simpa using hv, h1, h2, by simpa using h3, h4, by simpa using h5, by simpa using h6⟩
     subst hv1
     unfold maxLen at hcm1
     have hbX : Below (wr.heap.size + 1) (wr.alloc (.cells #[.string ⟨(l[k].name).toArray⟩, .slice A2 (l[k].b).length c2] 91)) w1 := ((Below.refl _ _).alloc (by simp) _).grown hg1 (by simp) (fun g hg => by simp [Value.ownBlock] at hg; omega)
     have HBX := Lib.hid hbX
     have HGV := Lib.hid hgv
     have HCS1 := Lib.hid hcs1
     have HTK := Lib.hid htk
     have hw2 : wr.heap.size + 1 < w1.heap.size := by have := (Array.getElem?_eq_some_iff.1 hgv).1; omega
     have ca0w : w1.cell? ⟨w.heap.size, 0, none⟩ = some (.int .i64 a.kind) := (hbX.cell (p := ⟨w.heap.size, 0, none⟩) (by simp; omega)).trans ((World.cell?_alloc_lt _ _ _ (by simpa using hbs2)).trans ca0)
     have ca2w : w1.cell? ⟨w.heap.size, 2, none⟩ = some (.int .i64 (a.off : Int)) := (hbX.cell (p := ⟨w.heap.size, 2, none⟩) (by simp; omega)).trans ((World.cell?_alloc_lt _ _ _ (by simpa using hbs2)).trans ca2)
     have ca3w : w1.cell? ⟨w.heap.size, 3, none⟩ = some (.slice Ap a.p.length cp) := (hbX.cell (p := ⟨w.heap.size, 3, none⟩) (by simp; omega)).trans ((World.cell?_alloc_lt _ _ _ (by simpa using hbs2)).trans ca3)
     have cX0 : w1.cell? ⟨wr.heap.size, 0, none⟩ = some (.string ⟨(l[k].name).toArray⟩) := (hbX.cell (p := ⟨wr.heap.size, 0, none⟩) (by simp)).trans (by rw [World.cell?_alloc_new]; rfl)
     have cX1 : w1.cell? ⟨wr.heap.size, 1, none⟩ = some (.slice A2 (l[k].b).length c2) := (hbX.cell (p := ⟨wr.heap.size, 1, none⟩) (by simp)).trans (by rw [World.cell?_alloc_new]; rfl)
     obtain ⟨D, hD⟩ : ∃ D, (if cap = a.off then some (⟨g, 0, none⟩ : Addr) else some ⟨g, a.off, none⟩) = D := ⟨_, rfl⟩
     have HPW : Hid (Bs w1 (fun b => G b ∧ b < w.heap.size) (.slice Ap a.p.length cp) a.p) := Lib.hid (HP.out.keep (by have := hbw.size; omega) (fun b hb' _ => by
      rw [hbX.block b (by have := hbw.size; omega), Below.heap_alloc wr _ b (by have := hbw.size; omega)]
      exact hbw.block b hb'))
     have HD : Hid (0 < (by8 a.p).length → D = some ⟨g, a.off, none⟩ ∧ ∃ ad, Ap = some ad ∧ ∀ j v, (by8 a.p)[j]? = some v → w1.drew.cell? (ad.add j) = some v) := Lib.hid (fun h0 => by
      rw [by8_len] at h0
      refine ⟨by rw [← hD, if_neg (by omega)], ?_⟩
      obtain ⟨A', c', e, _, _, hr⟩ := HPW.out
      injection e with e1 e2 e3
      subst e1
      obtain ⟨ad, e, _, _, hc'⟩ := hr.at_ 0 (by rw [by8_len]; exact h0)
      exact ⟨ad, e, hc'⟩)
     have hD' := hD
     have HD' := Lib.hid hD'
     have hmin : Hid ((by8 a.p).length = Nat.min a.p.length ((l[k].b).length - a.off)) := Lib.hid (by rw [by8_len]; exact (Nat.min_eq_left (by omega)).symm)
     have hfit2 : Hid (a.off + (by8 a.p).length ≤ cur.toList.length) := Lib.hid (by rw [by8_len, Array.length_toList, hcs1]; omega)
     have hsz1 : Hid ((Tryz.prog.info? 5).map (·.size) = some 1) := Lib.hid (by kernel_rfl)
     have o0 : (0 : Int) ≤ (a.off : Int) := by omega
     have o1 : (a.off : Int) ≤ ((l[k].b).length : Int) := by omega
     have o2 : a.off ≤ cap := by omega
     clear hgv hcs1 htk hbX hown1 hg1 hat1 hnil1 hD'
     go_region_law (refine step_copy_splice rfl (.tmp 39) (.tmp 41) 45 45 rfl 5 Tryz.underlying45 hsz1.out D Ap ((l[k].b).length - a.off) (cap - a.off) a.p.length cp (by simp [Act.eval, Act.put]) (by simp [Act.eval, Act.put]) g a.off cur.toList 5 HGV.out (by8 a.p) hmin.out HD.out hfit2.out (by8_one _) g w1 (Below.refl _ _).drew (Nat.le_refl _) ?_; intro w2 hh2 hb2)
     all_goals
      have hg1' : wr.heap.size < g := by omega
      have cX0' : w2.cell? ⟨wr.heap.size, 0, none⟩ = some (.string ⟨(l[k].name).toArray⟩) := (hb2.cell (p := ⟨wr.heap.size, 0, none⟩) hg1').trans cX0
      have cX1' : w2.cell? ⟨wr.heap.size, 1, none⟩ = some (.slice A2 (l[k].b).length c2) := (hb2.cell (p := ⟨wr.heap.size, 1, none⟩) hg1').trans cX1
      have fX1 : w2.frozen? ⟨wr.heap.size, 1, none⟩ = false := (hb2.frozen (p := ⟨wr.heap.size, 1, none⟩) hg1').trans ((HBX.out.frozen (p := ⟨wr.heap.size, 1, none⟩) (by simp)).trans (by simp [go_sem]))
      have ca0' : w2.cell? ⟨w.heap.size, 0, none⟩ = some (.int .i64 a.kind) := (hb2.cell (p := ⟨w.heap.size, 0, none⟩) (by show w.heap.size < g; omega)).trans ca0w
      have hw3 : g < w2.heap.size := (Array.getElem?_eq_some_iff.1 hh2.out).1
      have HW12 : Hid (∀ b, b < wr.heap.size → w2.heap[b]? = wr.heap[b]?) := Lib.hid (fun b hb' => (hb2.block b (by omega)).trans ((HBX.out.block b (by omega)).trans (Below.heap_alloc wr _ b hb')))
      have hgl := Lib.hid (Vf.goes_len a i (l.take k) 0)
      have hrt : Hid ((l.take k).length = k) := Lib.hid (by rw [List.length_take]; omega)
      have HOW : Hid (((w2.setCell ⟨wr.heap.size, 1, none⟩ (.slice (some ⟨g, 0, none⟩) (l[k].b).length cap)).alloc (.cells #[.string ⟨(l[k].name).toArray⟩, .slice (some ⟨g, 0, none⟩) (l[k].b).length cap] 91)).ownsRow (w.heap.size + 1) 91 2 mv (Vf.goes a i 0 (l.take k)).length ys) := Lib.hid (owns_keep hown.out (fun g' hg' => by
       have hlt' := (hown.out.lt g' hg').2
       rw [Below.heap_alloc _ _ g' (by simp [World.setCell]; omega), Below.heap_setCell w2 ⟨wr.heap.size, 1, none⟩ _ g' (by show g' ≠ wr.heap.size; omega)]
       exact HW12.out g' hlt'))
      go_wp2_with (at_builtin; refine wpList_app _ rfl (.tmp 53) (.tmp 55) 60 rfl (w.heap.size + 1) 91 i0 _ 2 40 Tryz.underlying60 HI.out HZ.out.1 HZ.out.2.1 HZ.out.2.2 rfl (by decide) mv _ ys rfl HOW.out (fun b => b = w2.heap.size) (some ⟨w2.heap.size, 0, none⟩) 1 1 [.string ⟨(l[k].name).toArray⟩, .slice (some ⟨g, 0, none⟩) (l[k].b).length cap] rfl (by simp) (Rd.fresh _ _ _ _ (by simp [World.setCell])) (by intro u hu; simp at hu; rcases hu with rfl | rfl <;> rfl) (by have := hgl.out; have := hrt.out; unfold maxLen; omega) (by have := hgl.out; have := hrt.out; omega) (by simp [World.setCell]; omega) ?_; intro v3 w3 hown3 hg3 hat3 hnil3)
      have hbs1 : w.heap.size + 1 ≤ wr.heap.size := by omega
      have HG2 : Hid ((((w2.setCell ⟨wr.heap.size, 1, none⟩ (.slice (some ⟨g, 0, none⟩) (l[k].b).length cap)).alloc (.cells #[.string ⟨(l[k].name).toArray⟩, .slice (some ⟨g, 0, none⟩) (l[k].b).length cap] 91))).heap[g]? = some (.cells (splice cur.toList a.off (by8 a.p)).toArray 5 (0, 0))) := Lib.hid (by
       rw [Below.heap_alloc _ _ g (by simp [World.setCell]; omega), Below.heap_setCell w2 ⟨wr.heap.size, 1, none⟩ _ g (by show g ≠ wr.heap.size; omega)]
       exact hh2.out)
      have hnew := bytes_spliced HG2.out HTK.out (by rw [Array.length_toList, HCS1.out]; omega) hfits hnc (by unfold maxLen; omega)
      obtain ⟨n1, n2, n3⟩ := rel_next (G := G) (B0 := w.heap.size) (J := fun b => I b ∨ b = g) (f := ⟨l[k].name, Vf.upd l[k].b a.off a.p⟩) (cs := [.string ⟨(l[k].name).toArray⟩, .slice (some ⟨g, 0, none⟩) (l[k].b).length cap]) hrow.out hys.out (by simp [World.setCell]; omega) (fun b hb' _ => by
       rw [Below.heap_alloc _ _ b (by simp [World.setCell]; omega), Below.heap_setCell w2 ⟨wr.heap.size, 1, none⟩ _ b (by show b ≠ wr.heap.size; omega)]
       exact HW12.out b hb') hg3 hat3
       (fun b hb' => by
        rcases hb' with h | h
        ·exact ⟨by have := (hI.out b h).1; simp [World.setCell]; omega, (hI.out b h).2⟩
        ·exact ⟨by simp [World.setCell]; omega, .inr (by omega)⟩)
       (fun g' hg' hj => by
        rcases hj with h | h
        ·exact hrow.out g' hg' h
        ·have := (hown.out.lt g' hg').2; omega)
       (fun b h => .inl h)
       ⟨_, rfl, hnew.mono (fun b _ h => .inr h)⟩
      have N1 := Lib.hid n1
      have N2 := Lib.hid n2
      have N3 := Lib.hid n3
      have hb3 : Below (w.heap.size + 1) (w.alloc (.cells #[.int .i64 a.kind, .string ⟨a.name.toArray⟩, .int .i64 (a.off : Int), .slice Ap a.p.length cp] 118)) w3 := by
       have h1 : Below (w.heap.size + 1) wr w2 := ⟨hb2.os.trans (HBX.out.os.trans rfl), hb2.tape.trans (HBX.out.tape.trans rfl), hb2.output.trans (HBX.out.output.trans rfl), by omega, fun b hb' => HW12.out b (by omega)⟩
       exact (((hbel.trans h1).setCell (by show w.heap.size + 1 ≤ wr.heap.size; omega) _).alloc (by simp [World.setCell]; omega) _).grown hg3 (by simp [World.setCell]; omega) (fun g hg => (hown.out.lt g hg).1)
      have HB3 := Lib.hid hb3
      clear n1 n2 n3 hb3 hnew
      go_roundw
      case rel =>
       refine ⟨k + 1, v3, ys ++ [.string ⟨(l[k].name).toArray⟩, .slice (some ⟨g, 0, none⟩) (l[k].b).length cap], fun b => I b ∨ b = g, by omega, by go_num, rfl, Lib.hid ?_, Lib.hid ?_, N2, N3, HB3.out⟩
       ·rw [hG.out, List.length_append]; exact hown3
       ·rw [hG.out]; exact N1.out
      case measure => simp [intOf]; omega
    ·by_cases h3 : a.kind = 3
     ·have hk3 : (a.kind == 3) = true := by simpa using h3
      have hk3' : (a.kind != 3) = false := by simpa using h3
      have hk2 : (a.kind == 2) = false := by rw [h3]; rfl
      have hG : Hid (Vf.goes a i 0 (l.take (k + 1)) = Vf.goes a i 0 (l.take k)) := Lib.hid (by rw [Vf.goes_take a i l k hlt]; unfold Vf.one; rw [if_neg (fun h => h2 h.2), if_pos ⟨hki, h3⟩, List.append_nil])
      clear hki h2 h3
      have hbs1 : w.heap.size + 1 ≤ wr.heap.size := by have := hbel.size; simpa using this
      go_wp2_with fail
      go_roundw
      case rel =>
       refine ⟨k + 1, mv, ys, I, by omega, by go_num, rfl, Lib.hid ?_, Lib.hid ?_, Lib.hid (fun b hb' => ⟨by have := (hI.out b hb').1; simp; omega, (hI.out b hb').2⟩), hrow, hbel.alloc hbs1 _⟩
       ·rw [hG.out]; exact hown.out.alloc _
       ·rw [hG.out]; exact hys.out.mono fun f cs h => h.keep (by simp) (fun b hb' _ => Below.heap_alloc wr _ b hb')
      case measure => simp [intOf]; omega
     ·have hk3 : (a.kind == 3) = false := by simpa using h3
      have hk3' : (a.kind != 3) = true := by simpa using h3
      have hk2 : (a.kind == 2) = false := by simpa using h2
      have hG : Hid (Vf.goes a i 0 (l.take (k + 1)) = Vf.goes a i 0 (l.take k) ++ [l[k]]) := Lib.hid (by rw [Vf.goes_take a i l k hlt]; unfold Vf.one; rw [if_neg (fun h => h2 h.2), if_neg (fun h => h3 h.2)])
      clear hki h2 h3
      have hgl := Lib.hid (Vf.goes_len a i (l.take k) 0)
      have hrt : Hid ((l.take k).length = k) := Lib.hid (by rw [List.length_take]; omega)
      go_wp2_with (at_builtin; refine wpList_app _ rfl (.tmp 53) (.tmp 55) 60 rfl (w.heap.size + 1) 91 i0 _ 2 40 Tryz.underlying60 HI.out HZ.out.1 HZ.out.2.1 HZ.out.2.2 rfl (by decide) mv _ ys rfl ((hown.out.alloc _).alloc _) (fun b => b = wr.heap.size + 1) (some ⟨wr.heap.size + 1, 0, none⟩) 1 1 [.string ⟨(l[k].name).toArray⟩, .slice A2 (l[k].b).length c2] rfl (by simp) (Rd.fresh _ _ _ _ (by simp)) hone.out (by have := hgl.out; have := hrt.out; unfold maxLen; omega) (by have := hgl.out; have := hrt.out; omega) (by have := hbel.size; simp at this ⊢; omega) ?_; intro v1 w1 hown1 hg1 hat1 hnil1)
      have hbs1 : w.heap.size + 1 ≤ wr.heap.size := by have := hbel.size; simpa using this
      have hrl : ∀ g, mv.ownBlock = some g → w.heap.size + 1 ≤ g := fun g hg => (hown.out.lt g hg).1
      obtain ⟨n1, n2, n3⟩ := rel_next (G := G) (B0 := w.heap.size) (J := fun b => I b ∨ (G b ∧ b < w.heap.size)) (f := l[k]) hrow.out hys.out (by simp; omega) (fun b hb' _ => ((Below.heap_alloc _ _ b (by simp; omega)).trans (Below.heap_alloc wr _ b hb'))) hg1 hat1
       (fun b hb' => by
        rcases hb' with h | ⟨h1, h2⟩
        ·exact ⟨by have := (hI.out b h).1; simp; omega, (hI.out b h).2⟩
        ·exact ⟨by have := hbw.size; simp; omega, .inl h1⟩)
       (fun g hg hj => by
        rcases hj with h | h
        ·exact hrow.out g hg h
        ·have := hrl g hg; omega)
       (fun b h => .inl h)
       (((HCS.out.keep (w' := wr.alloc _) (by simp) (fun i hi _ => Below.heap_alloc wr _ i hi)).keep (w' := (wr.alloc _).alloc _) (by simp) (fun i hi _ => Below.heap_alloc _ _ i hi)).wide (fun i _ h => .inr h))
      have N1 := Lib.hid n1
      have N2 := Lib.hid n2
      have N3 := Lib.hid n3
      clear n1 n2 n3 hrl
      go_roundw
      case rel =>
       refine ⟨k + 1, v1, ys ++ [.string ⟨(l[k].name).toArray⟩, .slice A2 (l[k].b).length c2], fun b => I b ∨ (G b ∧ b < w.heap.size), by omega, by go_num, rfl, Lib.hid ?_, Lib.hid ?_, N2, N3, ((hbel.alloc hbs1 _).alloc (by simp; omega) _).grown hg1 (by simp; omega) (fun g hg => (hown.out.lt g hg).1)⟩
       ·rw [hG.out, List.length_append]; exact hown1
       ·rw [hG.out]; exact N1.out
      case measure => simp [intOf]; omega
   ·have hkb : ((k : Int) == i) = false := by simpa using hki
    have hkb2 : ((k : Int) != i) = true := by simpa using hki
    have hG : Hid (Vf.goes a i 0 (l.take (k + 1)) = Vf.goes a i 0 (l.take k) ++ [l[k]]) := Lib.hid (by rw [Vf.goes_take a i l k hlt]; unfold Vf.one; rw [if_neg (fun h => hki h.1), if_neg (fun h => hki h.1)])
    clear hki
    have hgl := Lib.hid (Vf.goes_len a i (l.take k) 0)
    have hrt : Hid ((l.take k).length = k) := Lib.hid (by rw [List.length_take]; omega)
    go_wp2_with (at_builtin; refine wpList_app _ rfl (.tmp 53) (.tmp 55) 60 rfl (w.heap.size + 1) 91 i0 _ 2 40 Tryz.underlying60 HI.out HZ.out.1 HZ.out.2.1 HZ.out.2.2 rfl (by decide) mv _ ys rfl ((hown.out.alloc _).alloc _) (fun b => b = wr.heap.size + 1) (some ⟨wr.heap.size + 1, 0, none⟩) 1 1 [.string ⟨(l[k].name).toArray⟩, .slice A2 (l[k].b).length c2] rfl (by simp) (Rd.fresh _ _ _ _ (by simp)) hone.out (by have := hgl.out; have := hrt.out; unfold maxLen; omega) (by have := hgl.out; have := hrt.out; omega) (by have := hbel.size; simp at this ⊢; omega) ?_; intro v1 w1 hown1 hg1 hat1 hnil1)
    have hbs1 : w.heap.size + 1 ≤ wr.heap.size := by have := hbel.size; simpa using this
    have hrl : ∀ g, mv.ownBlock = some g → w.heap.size + 1 ≤ g := fun g hg => (hown.out.lt g hg).1
    obtain ⟨n1, n2, n3⟩ := rel_next (G := G) (B0 := w.heap.size) (J := fun b => I b ∨ (G b ∧ b < w.heap.size)) (f := l[k]) hrow.out hys.out (by simp; omega) (fun b hb' _ => ((Below.heap_alloc _ _ b (by simp; omega)).trans (Below.heap_alloc wr _ b hb'))) hg1 hat1
     (fun b hb' => by
      rcases hb' with h | ⟨h1, h2⟩
      ·exact ⟨by have := (hI.out b h).1; simp; omega, (hI.out b h).2⟩
      ·exact ⟨by have := hbw.size; simp; omega, .inl h1⟩)
     (fun g hg hj => by
      rcases hj with h | h
      ·exact hrow.out g hg h
      ·have := hrl g hg; omega)
     (fun b h => .inl h)
     (((HCS.out.keep (w' := wr.alloc _) (by simp) (fun i hi _ => Below.heap_alloc wr _ i hi)).keep (w' := (wr.alloc _).alloc _) (by simp) (fun i hi _ => Below.heap_alloc _ _ i hi)).wide (fun i _ h => .inr h))
    have N1 := Lib.hid n1
    have N2 := Lib.hid n2
    have N3 := Lib.hid n3
    clear n1 n2 n3 hrl
    go_roundw
    case rel =>
     refine ⟨k + 1, v1, ys ++ [.string ⟨(l[k].name).toArray⟩, .slice A2 (l[k].b).length c2], fun b => I b ∨ (G b ∧ b < w.heap.size), by omega, by go_num, rfl, Lib.hid ?_, Lib.hid ?_, N2, N3, ((hbel.alloc hbs1 _).alloc (by simp; omega) _).grown hg1 (by simp; omega) (fun g hg => (hown.out.lt g hg).1)⟩
     ·rw [hG.out, List.length_append]; exact hown1
     ·rw [hG.out]; exact N1.out
    case measure => simp [intOf]; omega
  ·obtain rfl : k = l.length := by omega
   rw [List.take_length] at hown hys
   have hbs1 : w.heap.size + 1 ≤ wr.heap.size := by have := hbel.size; simpa using this
   have hrl : ∀ g, mv.ownBlock = some g → w.heap.size + 1 ≤ g := fun g hg => (hown.out.lt g hg).1
   have HRL := Lib.hid hrl
   have hbs2 : w.heap.size < wr.heap.size := by omega
   clear hrl
   have hbw : Below w.heap.size w wr := ((Below.refl _ _).alloc (Nat.le_refl _) _).trans (hbel.mono (by omega))
   have ca : ∀ o u, (#[Value.int .i64 a.kind, .string ⟨a.name.toArray⟩, .int .i64 (a.off : Int), .slice Ap a.p.length cp])[o]? = some u → wr.cell? ⟨w.heap.size, o, none⟩ = some u := by
    intro o u hu
    rw [hbel.cell (p := ⟨w.heap.size, o, none⟩) (by simp), World.cell?_alloc_new]
    exact hu
   have ca0 := ca 0 _ rfl
   have ca1 := ca 1 _ rfl
   have ca2 := ca 2 _ rfl
   have ca3 := ca 3 _ rfl
   clear ca
   by_cases h1 : a.kind = 1
   ·have hk1 : (a.kind == 1) = true := by simpa using h1
    have hG : Hid (Vf.does l a = Vf.goes a i 0 l ++ [⟨a.name, a.p⟩]) := Lib.hid (by rw [HDO.out, if_pos h1])
    clear h1
    have hgl := Lib.hid (Vf.goes_len a i l 0)
    go_wp2_with (at_builtin; refine wpList_app _ rfl (.tmp 60) (.tmp 66) 60 rfl (w.heap.size + 1) 91 i0 _ 2 40 Tryz.underlying60 HI.out HZ.out.1 HZ.out.2.1 HZ.out.2.2 rfl (by decide) mv _ ys rfl (hown.out.alloc _) (fun b => b = wr.heap.size) (some ⟨wr.heap.size, 0, none⟩) 1 1 [.string ⟨a.name.toArray⟩, .slice Ap a.p.length cp] rfl (by simp) (Rd.fresh _ _ _ _ rfl) (by intro u hu; simp at hu; rcases hu with rfl | rfl <;> rfl) (by have := hgl.out; unfold maxLen; omega) (by have := hgl.out; omega) (by simp; omega) ?_; intro v1 w1 hown1 hg1 hat1 hnil1)
    have hpw : Bs wr (fun b => G b ∧ b < w.heap.size) (.slice Ap a.p.length cp) a.p := HP.out.below hbw
    obtain ⟨n1, n2, n3⟩ := rel_next (G := G) (B0 := w.heap.size) (J := fun b => I b ∨ (G b ∧ b < w.heap.size)) (f := ⟨a.name, a.p⟩) (cs := [.string ⟨a.name.toArray⟩, .slice Ap a.p.length cp]) hrow.out hys.out (by simp) (fun b hb' _ => Below.heap_alloc wr _ b hb') hg1 hat1
     (fun b hb' => by
      rcases hb' with h | ⟨h1, h2⟩
      ·exact ⟨by have := (hI.out b h).1; simp; omega, (hI.out b h).2⟩
      ·exact ⟨by have := hbw.size; simp; omega, .inl h1⟩)
     (fun g hg hj => by
      rcases hj with h | h
      ·exact hrow.out g hg h
      ·have := HRL.out g hg; omega)
     (fun b h => .inl h)
     ⟨_, rfl, (hpw.keep (by simp) (fun b hb' _ => Below.heap_alloc wr _ b hb')).mono (fun b _ h => .inr h)⟩
    have N1 := Lib.hid n1
    have N2 := Lib.hid n2
    clear n1 n2 n3 hpw
    go_wp2_with fail
    go_ret
    refine ⟨v1, rfl, ?_, (hbw.alloc hbw.size _).grown hg1 (by simp; omega) (fun g hg => by have := HRL.out g hg; omega)⟩
    ·rw [hG.out]
     refine Vf.Fs.own (xs := ys ++ [.string ⟨a.name.toArray⟩, .slice Ap a.p.length cp]) (by rw [List.length_append]; exact hown1) (fun b hb' => .inr (by omega)) (N1.out.mono fun f cs h => h.wide (fun b _ hj => ?_))
     exact (N2.out b hj).2
   ·have hk1 : (a.kind == 1) = false := by simpa using h1
    have hG : Hid (Vf.does l a = Vf.goes a i 0 l) := Lib.hid (by rw [HDO.out, if_neg h1, List.append_nil])
    clear h1
    go_wp2_with fail
    go_ret
    refine ⟨mv, rfl, ?_, hbw⟩
    rw [hG.out]
    exact Vf.Fs.own hown.out (fun b hb' => .inr (by omega)) (hys.out.mono fun f cs h => h.wide (fun b _ hj => (hI.out b hj).2))
end
section
open Go.RowKit
open Me
namespace Vf
structure Sv where
 room : Int
 now : List Fl
 was : List Fl
 l : List Ac
def used (l : List Fl) : Nat := (l.map (·.b.length)).sum
theorem used_take (l : List Fl) (k : Nat) (h : k < l.length) : used (l.take (k + 1)) = used (l.take k) + l[k].b.length := by
 unfold used
 rw [List.take_succ_eq_append_getElem h, List.map_append, List.sum_append]
 simp
theorem used_le (l : List Fl) (k : Nat) : used (l.take k) ≤ used l := by
 unfold used
 conv => rhs; rw [← List.take_append_drop k l]
 rw [List.map_append, List.sum_append]
 omega
theorem AcC.keep {w w' : World} {G : Nat → Prop} (hs : w.heap.size ≤ w'.heap.size) (hk : ∀ i, i < w.heap.size → G i → w'.heap[i]? = w.heap[i]?) (a : Ac) (cs : List Value) (h : AcC w G a cs) : AcC w' G a cs := by
 obtain ⟨v, e, hb⟩ := h
 exact ⟨v, e, hb.keep hs hk⟩
theorem AcC.wide {w : World} {G G' : Nat → Prop} (hG : ∀ i, i < w.heap.size → G i → G' i) (a : Ac) (cs : List Value) (h : AcC w G a cs) : AcC w G' a cs := by
 obtain ⟨v, e, hb⟩ := h
 exact ⟨v, e, hb.mono hG⟩
theorem Fs.keep {w w' : World} {G : Nat → Prop} {v : Value} {l : List Fl} (h : Fs w G v l) (hs : w.heap.size ≤ w'.heap.size) (hk : ∀ i, i < w.heap.size → G i → w'.heap[i]? = w.heap[i]?) : Fs w' G v l := by
 obtain ⟨A, c, xs, e, h1, h2, h3, h4⟩ := h
 exact ⟨A, c, xs, e, h1, h2, h3.keep hs hk, h4.mono fun f cs hc => hc.keep hs hk⟩
theorem Fs.wide {w : World} {G G' : Nat → Prop} {v : Value} {l : List Fl} (h : Fs w G v l) (hG : ∀ i, i < w.heap.size → G i → G' i) : Fs w G' v l := by
 obtain ⟨A, c, xs, e, h1, h2, h3, h4⟩ := h
 exact ⟨A, c, xs, e, h1, h2, h3.mono hG, h4.mono fun f cs hc => hc.wide hG⟩
structure At (w : World) (G : Nat → Prop) (fs : Nat) (lr : Option Nat) (S : Sv) (nv wv lv : Value) (ys : List Value) : Prop where
 heap : w.heap[fs]? = some (.cells #[.int .i64 S.room, nv, wv, lv] 63 (0, 0))
 now : Fs w G nv S.now
 was : Fs w G wv S.was
 own : w.ownsRow 0 118 4 lv S.l.length ys
 acts : Els (AcC w G) S.l ys
 row : lv.ownBlock = lr
 gfs : ¬ G fs
 glr : ∀ g, lr = some g → ¬ G g ∧ g ≠ fs
 lt : ∀ b, G b → b < w.heap.size
theorem At.cells {w : World} {G : Nat → Prop} {fs : Nat} {lr : Option Nat} {S : Sv} {nv wv lv : Value} {ys : List Value} (h : At w G fs lr S nv wv lv ys) :
 w.cell? ⟨fs, 0, none⟩ = some (.int .i64 S.room) ∧ w.cell? ⟨fs, 1, none⟩ = some nv ∧ w.cell? ⟨fs, 2, none⟩ = some wv ∧ w.cell? ⟨fs, 3, none⟩ = some lv ∧ ∀ i, w.frozen? ⟨fs, i, none⟩ = false := by
 refine ⟨?_, ?_, ?_, ?_, fun i => ?_⟩
 ·rw [cell_of_row w fs 0 _ _ _ h.heap]; rfl
 ·rw [cell_of_row w fs 1 _ _ _ h.heap]; rfl
 ·rw [cell_of_row w fs 2 _ _ _ h.heap]; rfl
 ·rw [cell_of_row w fs 3 _ _ _ h.heap]; rfl
 ·simp [World.frozen?, h.heap]
theorem At.fsLt {w : World} {G : Nat → Prop} {fs : Nat} {lr : Option Nat} {S : Sv} {nv wv lv : Value} {ys : List Value} (h : At w G fs lr S nv wv lv ys) : fs < w.heap.size := (Array.getElem?_eq_some_iff.1 h.heap).1
end Vf
theorem used_any {w : World} {G : Nat → Prop} {fs : Nat} {lr : Option Nat} {S : Vf.Sv} {nv wv lv : Value} {ys : List Value} (h : Vf.At w G fs lr S nv wv lv ys) (hl : S.now.length ≤ 1048576) (hu : Vf.used S.now ≤ 1099511627776) :
 Calls Tryz.prog 50 #[.pointer (some ⟨fs, 0, none⟩)] w fun e w' => e = .returned (.int .i64 (Vf.used S.now : Int)) ∧ w = w' := by
 obtain ⟨c0, c1, c2, c3, hf⟩ := h.cells
 obtain ⟨A, c, xs, rfl, hc, hcm, hrd, hels⟩ := h.now
 unfold maxLen at hcm
 have HR := Lib.hid hrd
 have HE := Lib.hid hels
 have hl' : (S.now.length : Int) ≤ 1048576 := by omega
 clear hrd hels h c0 c2 c3 hf
 generalize S.now = l at *
 go_enter Tryz.func50, Tryz.ntmps50
 go_wp2_with fail
 go_loop [3, 4] (fun n i => ∃ (k : Nat) (x : Int), k ≤ l.length ∧ i = .int .i64 k ∧ n = .int .i64 x ∧ 0 ≤ x ∧ x ≤ 1099511627776 ∧ Hid (x = (Vf.used (l.take k) : Int))) (fun _ i => l.length - (intOf i).toNat)
 case atStart => exact ⟨0, 0, Nat.zero_le _, rfl, rfl, by omega, by omega, Lib.hid rfl⟩
 case round =>
  obtain ⟨k, x, hk, rfl, rfl, x0, x1, hx⟩ := hrel
  by_cases hlt : k < l.length
  ·obtain ⟨cs, ⟨bv, rfl, hbs⟩, hxx⟩ := HE.out.get Vf.FlC.two k hlt
   have hxl := HE.out.length Vf.FlC.two
   obtain ⟨rb, ro, rfl, hlt2, hg, hcell⟩ := HR.out.lit (k * 2) (by omega)
   obtain ⟨A2, cc, rfl, hc2, hcm2, hrd2⟩ := hbs
   have hcl2 : w.cell? ⟨rb, ro + k * 2 + 1, none⟩ = some (.slice A2 (l[k].b).length cc) := by have := hcell _ _ (hxx 1 (by omega)); rwa [← Nat.add_assoc] at this
   have hs := Lib.hid (Vf.used_take l k hlt)
   have hle := Vf.used_le l (k + 1)
   have hb : x + (l[k].b).length ≤ 1099511627776 := by have := hs.out; have := hx.out; omega
   clear hxx hxl hcell hrd2 hle
   go_wp2_with fail
   go_round
   case rel => exact ⟨k + 1, _, by omega, by go_num, rfl, by omega, by omega, Lib.hid (by rw [hs.out]; have := hx.out; omega)⟩
   case measure => simp [intOf]; omega
  ·obtain rfl : k = l.length := by omega
   rw [List.take_length] at hx
   go_wp2_with fail
   go_ret
   exact ⟨ret_i64 hx.out, rfl⟩
end
end Go.Proofs.YtljlanhpjpjgaaaGreatDoor
