/-
  PkEnter: CONTRACTS: chapter 12: the search's small methods: enter.
  PkSe: CHAPTER 12, MEMORY: what a store or an append leaves of the search's object.
  PkAdd: CONTRACTS: chapter 12: paths.add: on the list of this offset's paths, and on that of the next one's.
-/
import Derived.Test.YtelbabgkpflckaaJ5
import Derived.RegionTactic
import Derived.Deep.RegionLaw

set_option linter.unusedSimpArgs false
set_option linter.unusedVariables false
namespace Go.Proofs.Ytelbabgkpflckaa
open Go.RowKit
open Me
open Pk

namespace Pk
theorem fetch_cases (L : List Rx.In) (h : Int) : (fetch L h = none ∧ (h < 0 ∨ (L.length : Int) ≤ h)) ∨ ∃ x, fetch L h = some x ∧ 0 ≤ h ∧ h < (L.length : Int) := by
  unfold fetch
  by_cases h0 : 0 ≤ h
  · rw [if_pos h0]
    by_cases h1 : h.toNat < L.length
    · exact .inr ⟨_, List.getElem?_eq_getElem h1, h0, by omega⟩
    · exact .inl ⟨List.getElem?_eq_none (by omega), .inr (by omega)⟩
  · rw [if_neg h0]
    exact .inl ⟨rfl, .inl (by omega)⟩
end Pk

set_option maxRecDepth 100000 in
set_option maxHeartbeats 2000000 in
theorem enter_no {W : World} {sb : Nat} {c : Pk.Cs} (hS : Pk.Se W sb c) (h : Int) (k : Nat) (hk : k ≤ c.t.length) (hno : fetch c.L h = none ∨ exe c.dn k h.toNat = true) :
    Calls Try.prog 62 #[.pointer (some ⟨sb, 0, none⟩), .int .i64 h, .int .i64 (k : Int)] W fun e W' => e = .returned (.bool false) ∧ W' = W := by
  have c0 : W.cell? ⟨sb, 0, none⟩ = some (.slice c.pa c.L.length c.pc) := (hS.cell 0).trans rfl
  have c2 : W.cell? ⟨sb, 2, none⟩ = some c.dv := (hS.cell 2).trans rfl
  have hbt := hS.bt
  have hkw : IntKind.i64.wrap ((k : Int) + 1) = (k : Int) + 1 := by rw [IntKind.wrap_i64]; omega
  rcases fetch_cases c.L h with ⟨e0, hr⟩ | ⟨x, e0, h0, h1⟩
  · by_cases hneg : h < 0
    · go_enter Try.func62, Try.ntmps62
      go_wp2_with fail
      go_ret
      exact ⟨rfl, rfl⟩
    · have hge : (c.L.length : Int) ≤ h := by omega
      go_enter Try.func62, Try.ntmps62
      go_wp2_with fail
      go_ret
      exact ⟨rfl, rfl⟩
  · have hneg : ¬ h < 0 := by omega
    have hge : ¬ (c.L.length : Int) ≤ h := by omega
    have hd : h.toNat < c.dn.length := by rw [hS.dlen]; omega
    obtain ⟨g, cap, hdv, _, hgl⟩ := own_some hS.odn (by omega)
    rw [hdv] at c2
    have hdI : h < (c.dn.length : Int) := by omega
    have hex : exe c.dn k h.toNat = true := by
      rcases hno with hno | hno
      · rw [e0] at hno; cases hno
      · exact hno
    have hval : c.dn[h.toNat] = (k : Int) + 1 := by
      unfold exe at hex
      simp [hd] at hex
      exact hex
    have hcell : W.cell? ⟨g, h.toNat, none⟩ = some (.int .i64 ((k : Int) + 1)) := by
      have ho := hS.odn
      rw [hdv] at ho
      rw [World.ownsRow.cellAt ho _ (by omega), iv_get _ _ hd, hval]
    clear hval hex hno e0
    go_enter Try.func62, Try.ntmps62
    go_wp2_with fail
    go_ret
    exact ⟨rfl, rfl⟩

set_option maxRecDepth 100000 in
set_option maxHeartbeats 2000000 in
theorem enter_yes {W : World} {sb : Nat} {c : Pk.Cs} (hS : Pk.Se W sb c) (h : Int) (k : Nat) (hk : k ≤ c.t.length) {x : Rx.In} (hx : fetch c.L h = some x) (hno : exe c.dn k h.toNat = false) :
    Calls Try.prog 62 #[.pointer (some ⟨sb, 0, none⟩), .int .i64 h, .int .i64 (k : Int)] W fun e W' => e = .returned (.bool true) ∧ Pk.Se W' sb { c with dn := c.dn.set h.toNat ((k : Int) + 1) } ∧ Below c.b0 W W' := by
  have c0 : W.cell? ⟨sb, 0, none⟩ = some (.slice c.pa c.L.length c.pc) := (hS.cell 0).trans rfl
  have c2 : W.cell? ⟨sb, 2, none⟩ = some c.dv := (hS.cell 2).trans rfl
  have hbt := hS.bt
  have hkw : IntKind.i64.wrap ((k : Int) + 1) = (k : Int) + 1 := by rw [IntKind.wrap_i64]; omega
  have hf := fetch_some hx
  have hneg : ¬ h < 0 := by omega
  have hge : ¬ (c.L.length : Int) ≤ h := by omega
  have hd : h.toNat < c.dn.length := by rw [hS.dlen]; omega
  have hdI : h < (c.dn.length : Int) := by omega
  obtain ⟨g, cap, hdv, hgs, hgl⟩ := own_some hS.odn (by omega)
  have HP := Lib.hid (hS.mark hdv h.toNat ((k : Int) + 1))
  have HB : Hid (Below c.b0 W (W.setCell ⟨g, h.toNat, none⟩ (.int .i64 ((k : Int) + 1)))) := Lib.hid ((Below.refl c.b0 W).setCell (by show c.b0 ≤ g; omega) _)
  rw [hdv] at c2
  obtain ⟨n, hn⟩ : ∃ n, c.dn[h.toNat] = n := ⟨_, rfl⟩
  have hne : (n == (k : Int) + 1) = false := by
    unfold exe at hno
    simp [hd, hn] at hno
    simpa using hno
  have hne2 : ¬ n = (k : Int) + 1 := by simpa using hne
  have ho := hS.odn
  rw [hdv] at ho
  have hcell : W.cell? ⟨g, h.toNat, none⟩ = some (.int .i64 n) := by
    rw [World.ownsRow.cellAt ho _ (by omega), iv_get _ _ hd, hn]
  have hfr : W.frozen? ⟨g, h.toNat, none⟩ = false := World.ownsRow.frozenAt ho _
  clear ho hn hno hdv
  go_enter Try.func62, Try.ntmps62
  go_wp2_with fail
  go_ret
  exact ⟨rfl, HP.out, HB.out⟩
end Go.Proofs.Ytelbabgkpflckaa

namespace Go.Proofs.Ytelbabgkpflckaa
open Go.RowKit
open Me
namespace Pk
open Rx (In)
section
variable {W W2 : World} {sb : Nat} {c : Cs}
/-- A field of the object gets another row of one's own: laid anew, grown or cut. -/
theorem Se.swap (h : Se W sb c) (c' : Cs) (pos : Nat) {l1 l2 : List Ow} {x : Ow} (x' : Ow) (hc : c'.cells = c.cells.setIfInBounds pos x'.v) (ho : c.own = l1 ++ x :: l2) (ho' : c'.own = l1 ++ x' :: l2)
    (hs : W.heap.size ≤ W2.heap.size) (hk : ∀ g, g < W.heap.size → x.v.ownBlock ≠ some g → W2.heap[g]? = W.heap[g]?) (hx : x'.at_ W2 c.b0) (hv : ∀ g, x'.v.ownBlock = some g → x.v.ownBlock = some g ∨ W.heap.size ≤ g)
    (hpa : c'.pa = c.pa) (hL : c'.L = c.L) (hd : c'.dn.length = c.dn.length) (ht : c'.t = c.t) (hw : c'.wd = c.wd) (hf : Fit c.wd c'.ts) (hb0 : c'.b0 = c.b0 := by rfl) : Se (W2.setCell ⟨sb, pos, none⟩ x'.v) sb c' := by
  have hxm : x ∈ c.own := by rw [ho]; exact List.mem_append_right _ List.mem_cons_self
  have hxl := fun g hg => World.ownsRow.lt (h.own.each x hxm) g hg
  have hle := h.le
  have hsl := h.lt
  have hsb : W2.heap[sb]? = W.heap[sb]? := hk sb h.lt fun e => h.own.ne x hxm e
  have hrow : RowAt W2 sb 67 c.cells := hsb.trans h.row
  refine ⟨?_, ?_, ?_, by rw [hd, hL]; exact h.dlen, by rw [hL]; exact h.bL, by rw [ht]; exact h.bt, by rw [hw]; exact h.bw, by rw [hw]; exact h.tw, by rw [hw]; exact hf⟩
  · rw [hc]; exact hrow.set_ pos _
  · rw [ho', hb0]
    have h0 := h.own
    rw [ho] at h0
    refine Own.step x' h0 h.lt ?_ ?_ hv
    · intro g hg1 hg2 hg3 hne
      exact (Below.heap_setCell W2 ⟨sb, pos, none⟩ _ g hg3).trans (hk g hg2 hne)
    · exact owns_keep hx fun g hg => Below.heap_setCell W2 ⟨sb, pos, none⟩ _ g (by
        show g ≠ sb
        intro e
        subst e
        rcases hv g hg with h1 | h1
        · exact h.own.ne x hxm h1
        · omega)
  · rw [hpa, hL, hb0]
    refine h.prog.keep (by simpa [World.setCell] using hs) fun i hi hg => ?_
    exact (Below.heap_setCell W2 ⟨sb, pos, none⟩ _ i (by show i ≠ sb; omega)).trans (hk i hi fun e => by have := (hxl i e).1; omega)
/-- A row's cell is stored to. -/
theorem Se.store (h : Se W sb c) (c' : Cs) {l1 l2 : List Ow} {v : Value} {l : List Int} {g cap : Nat} (hv : v = .slice (some ⟨g, 0, none⟩) l.length cap) (p : Nat) (n : Int) (hc : c'.cells = c.cells) (ho : c.own = l1 ++ oi v l :: l2) (ho' : c'.own = l1 ++ oi v (l.set p n) :: l2)
    (hpa : c'.pa = c.pa) (hL : c'.L = c.L) (hd : c'.dn.length = c.dn.length) (ht : c'.t = c.t) (hw : c'.wd = c.wd) (hf : Fit c.wd c'.ts) (hb0 : c'.b0 = c.b0 := by rfl) : Se (W.setCell ⟨g, p, none⟩ (.int .i64 n)) sb c' ∧ Below c.b0 W (W.setCell ⟨g, p, none⟩ (.int .i64 n)) := by
  have hxm : oi v l ∈ c.own := by rw [ho]; exact List.mem_append_right _ List.mem_cons_self
  have hO : W.ownsRow c.b0 intT 1 v l.length (iv l) := h.own.each _ hxm
  have hg := World.ownsRow.lt hO g (by rw [hv]; rfl)
  have hgn : g ≠ sb := fun e => h.own.ne _ hxm (by show v.ownBlock = some sb; rw [hv, ← e]; rfl)
  have hb : Below c.b0 W (W.setCell ⟨g, p, none⟩ (.int .i64 n)) := (Below.refl c.b0 W).setCell (by show c.b0 ≤ g; omega) _
  refine ⟨⟨?_, ?_, ?_, by rw [hd, hL]; exact h.dlen, by rw [hL]; exact h.bL, by rw [ht]; exact h.bt, by rw [hw]; exact h.bw, by rw [hw]; exact h.tw, by rw [hw]; exact hf⟩, hb⟩
  · rw [hc]; exact h.row.far (by show sb ≠ g; omega) _
  · rw [ho', hb0]
    have h0 := h.own
    rw [ho] at h0
    refine Own.step (oi v (l.set p n)) h0 h.lt ?_ ?_ (fun g h => .inl h)
    · intro g' _ _ _ hne
      refine Below.heap_setCell W _ _ g' ?_
      intro e
      apply hne
      show v.ownBlock = some g'
      rw [hv, e]
      rfl
    · show World.ownsRow _ c.b0 intT 1 v (l.set p n).length (iv (l.set p n))
      rw [List.length_set, ← iv_set, hv]
      rw [hv] at hO
      exact (World.ownsRow.stored hO p (.int .i64 n)).1
  · rw [hpa, hL, hb0]; exact Rd.lower h.prog hb
theorem oi_app {w : World} {base : Nat} {v : Value} {l r : List Int} (h : w.ownsRow base intT 1 v (l.length + r.length) (iv l ++ iv r)) : (oi v (l ++ r)).at_ w base := by
  show w.ownsRow base intT 1 v (l ++ r).length (iv (l ++ r))
  rw [List.length_append, iv_append]
  exact h
theorem alloc_size (w : World) (o : Obj) : (w.alloc o).heap.size = w.heap.size + 1 := by simp
/-- A field's row is grown by an append. -/
theorem Se.grow (h : Se W sb c) (c' : Cs) (pos : Nat) {B : World} (hB : Below W.heap.size W B) {l1 l2 : List Ow} {x : Ow} (x' : Ow) (hc : c'.cells = c.cells.setIfInBounds pos x'.v) (ho : c.own = l1 ++ x :: l2) (ho' : c'.own = l1 ++ x' :: l2)
    (hx : x'.at_ W2 c.b0) (hg : B.grownBy W2 x.v.ownBlock) (ha : x'.v.ownBlock = x.v.ownBlock ∨ x'.v.ownBlock = some B.heap.size)
    (hpa : c'.pa = c.pa) (hL : c'.L = c.L) (hd : c'.dn.length = c.dn.length) (ht : c'.t = c.t) (hw : c'.wd = c.wd) (hf : Fit c.wd c'.ts) (hb0 : c'.b0 = c.b0 := by rfl) : Se (W2.setCell ⟨sb, pos, none⟩ x'.v) sb c' ∧ Below c.b0 W (W2.setCell ⟨sb, pos, none⟩ x'.v) := by
  have hxm : x ∈ c.own := by rw [ho]; exact List.mem_append_right _ List.mem_cons_self
  have htn := World.ownsRow.lt (h.own.each x hxm)
  have hs1 := hB.size
  have hs2 := hg.size
  refine ⟨?_, ?_⟩
  · refine Se.swap (W2 := W2) h c' pos x' hc ho ho' (by omega) ?_ hx ?_ hpa hL hd ht hw hf hb0
    · intro b hb hne
      exact (hg.block b (by omega) fun e => hne e.symm).trans (hB.block b hb)
    · intro b hb
      rcases ha with e | e
      · exact .inl (e.symm.trans hb)
      · refine .inr ?_
        have e2 : some b = some _ := hb.symm.trans e
        have := Option.some.inj e2
        omega
  · have hlt := h.lt
    have hle := h.le
    refine Below.setCell ?_ hle _
    refine Below.trans (b := B) (hB.mono (by omega)) ?_
    exact ⟨hg.os, hg.tape, hg.output, hg.size, fun b hb => hg.block b (by omega) fun e => by
      have := (htn b e.symm).1
      omega⟩
/-- A turn is laid (behind those that are kept). -/
theorem Se.push (h : Se W sb c) (lit : Obj) {A2 : Option Addr} {c2 n2 : Nat} {ts2 : List Tn} (hn : n2 = ts2.length) (ho : W2.ownsRow c.b0 turnT 4 (.slice A2 n2 c2) n2 (tcells ts2.reverse)) (hg : (W.alloc lit).grownBy W2 c.tv.ownBlock)
    (ha : (Value.slice A2 n2 c2).ownBlock = c.tv.ownBlock ∨ (Value.slice A2 n2 c2).ownBlock = some (W.alloc lit).heap.size) (hf : Fit c.wd ts2) :
    Se (W2.setCell ⟨sb, 10, none⟩ (.slice A2 n2 c2)) sb { c with tv := .slice A2 n2 c2, ts := ts2 } ∧ Below c.b0 W (W2.setCell ⟨sb, 10, none⟩ (.slice A2 n2 c2)) := by
  subst hn
  exact Se.grow (W2 := W2) h { c with tv := .slice A2 ts2.length c2, ts := ts2 } 10 ((Below.refl _ W).alloc (Nat.le_refl _) lit) (l1 := [oi c.dv c.dn, oi c.bv c.bl, oi c.no c.nofs, oi c.nh c.nhds, oi c.xo c.xofs, oi c.xh c.xhds]) (l2 := [oi c.fv c.fl]) (x := ⟨turnT, 4, c.tv, c.ts.length, tcells c.ts.reverse⟩) ⟨turnT, 4, .slice A2 ts2.length c2, ts2.length, tcells ts2.reverse⟩ rfl rfl rfl ho hg ha rfl rfl rfl rfl rfl hf
theorem Se.drew (h : Se W sb c) : Se W.drew sb c := ⟨h.row, ⟨h.own.each, h.own.apart, h.own.ne, h.own.le⟩, h.prog, h.dlen, h.bL, h.bt, h.bw, h.tw, h.fit⟩
/-- The row of now's that is worked on. -/
theorem Se.rowcell (h : Se W sb c) {g cap : Nat} (hv : c.no = .slice (some ⟨g, 0, none⟩) c.nofs.length cap) (i : Nat) (hi : i < c.nofs.length) : W.cell? ⟨g, i, none⟩ = some (.int .i64 c.nofs[i]) ∧ W.frozen? ⟨g, i, none⟩ = false := by
  have ho := h.ono
  rw [hv] at ho
  exact ⟨by rw [World.ownsRow.cellAt ho _ (by omega), iv_get _ _ hi], World.ownsRow.frozenAt ho _⟩
end
theorem int_info : (Try.prog.info? 3).map (fun i => (i.zero, i.size, i.bytes)) = some (some (.int .i64 0), 1, 8) := by kernel_rfl
theorem turn_info : (Try.prog.info? 107).map (fun i => (i.zero, i.size, i.bytes)) = some (some (.agg #[.int .i64 0, .bool false, .int .i64 0, .int .i64 0]), 4, 32) := by kernel_rfl
end Pk
end Go.Proofs.Ytelbabgkpflckaa

namespace Go.Proofs.Ytelbabgkpflckaa
open Go.RowKit
open Me
open Pk

set_option maxRecDepth 100000 in
set_option maxHeartbeats 4000000 in
theorem add_next {W : World} {sb : Nat} {c : Pk.Cs} (hS : Pk.Se W sb c) (h : Int) (A : Option Addr) (r : List Int) (m cp : Nat) (hm : m = r.length) (hr : Rd W (fun i => c.b0 ≤ i ∧ i ≠ sb) A (iv r)) (hap : ∀ ad, A = some ad → c.xh.ownBlock ≠ some ad.block) (hlh : c.xhds.length ≤ 1048576) (hlo : c.xofs.length ≤ 1073741824) (hlr : r.length ≤ 1048576) :
    Calls Try.prog 39 #[.pointer (some ⟨sb, 7, none⟩), .int .i64 h, .slice A m cp] W fun e W' => e = .returned (.tuple #[]) ∧ Below c.b0 W W' ∧ ∃ v1 v2, Pk.Se W' sb { c with xo := v1, xh := v2, xofs := c.xofs ++ r, xhds := c.xhds ++ [h] } := by
  subst hm
  obtain ⟨i0, hi0, hz0, hz1, hz2⟩ := info_parts Pk.int_info
  have HI := Lib.hid hi0
  have HZ := Lib.hid (And.intro hz0 (And.intro hz1 hz2))
  clear hi0 hz0 hz1 hz2
  have hsl := hS.lt
  have hle := hS.le
  have c1 : W.cell? ⟨sb, 9, none⟩ = some c.xh := (hS.cell 9).trans rfl
  have f1 := hS.row.frozen 9
  have c2 : W.cell? ⟨sb, 8, none⟩ = some c.xo := (hS.cell 8).trans rfl
  have f2 := hS.row.frozen 8
  obtain ⟨Ah, ch, hvh⟩ := own_form hS.oxh
  obtain ⟨Ao, co, hvo⟩ := own_form hS.oxo
  have hnh := World.ownsRow.lt hS.oxh
  rw [hvh] at c1
  rw [hvo] at c2
  have HOH : Hid ((W.alloc (.cells #[.int .i64 h] 3)).ownsRow c.b0 3 1 (.slice Ah c.xhds.length ch) c.xhds.length (iv c.xhds)) := Lib.hid (hvh ▸ (owns_keep hS.oxh fun b hb => Below.heap_alloc _ _ _ (hnh b hb).2))
  have HRD : Hid (Rd (W.alloc (.cells #[.int .i64 h] 3)) (fun b => b = W.heap.size) (some ⟨W.heap.size, 0, none⟩) [.int .i64 h]) := Lib.hid (Rd.fresh W [.int .i64 h] 3 _ rfl)
  have HVH : Hid (c.xh = .slice Ah c.xhds.length ch) := Lib.hid hvh
  have HVO : Hid (c.xo = .slice Ao c.xofs.length co) := Lib.hid hvo
  have HS := Lib.hid hS
  have HRR := Lib.hid hr
  have HAP := Lib.hid hap
  have HLW : Hid (c.xh.ownBlock ≠ some sb) := Lib.hid hS.xhne
  have HLO : Hid (c.xo.ownBlock ≠ some sb) := Lib.hid hS.xone
  have hl1 : c.xhds.length + 1 ≤ maxLen := by unfold maxLen; omega
  have hl2 : c.xofs.length + r.length ≤ maxLen := by unfold maxLen; omega
  have HBB : Hid (Below W.heap.size W (W.alloc (.cells #[.int .i64 h] 3))) := Lib.hid ((Below.refl _ W).alloc (Nat.le_refl _) _)
  clear hS hr hvh hnh hap hvo
  go_enter Try.func39, Try.ntmps39
  go_wp2_with (at_builtin; go_must (first
    | (refine wpList_app _ rfl (.tmp 10) (.tmp 12) 28 rfl c.b0 3 i0 _ 1 8 Try.underlying28 HI.out HZ.out.1 HZ.out.2.1 HZ.out.2.2 rfl (by decide) (.slice Ah c.xhds.length ch) c.xhds.length (iv c.xhds) (by simp [Act.eval]) HOH.out (fun b => b = W.heap.size) (some ⟨W.heap.size, 0, none⟩) 1 1 [.int .i64 h] (by simp [Act.eval]) (by simp) HRD.out (by intro u hu; simp at hu; subst hu; rfl) hl1 (by omega) (by simp; omega) ?_; intro v2 w2 hown2 hg2 hat2 hnil2; have HPU := Lib.hid (Pk.Se.grow (W2 := w2) HS.out { c with xh := v2, xhds := c.xhds ++ [h] } 9 HBB.out (l1 := [oi c.dv c.dn, oi c.bv c.bl, oi c.no c.nofs, oi c.nh c.nhds, oi c.xo c.xofs]) (l2 := [⟨turnT, 4, c.tv, c.ts.length, tcells c.ts.reverse⟩, oi c.fv c.fl]) (x := oi c.xh c.xhds) (oi v2 (c.xhds ++ [h])) rfl rfl rfl (oi_app (r := [h]) hown2) (by show World.grownBy _ _ c.xh.ownBlock; rw [HVH.out]; exact hg2) (by show v2.ownBlock = c.xh.ownBlock ∨ _; rw [HVH.out]; exact hat2) rfl rfl rfl rfl rfl HS.out.fit); have hkeep : ∀ g, g ≠ sb → g < W.heap.size → c.xh.ownBlock ≠ some g → (w2.setCell ⟨sb, 9, none⟩ v2).heap[g]? = W.heap[g]? := (fun g h1 h2 h3 => ((Below.heap_setCell w2 _ _ g h1).trans (hg2.block g (by rw [alloc_size]; omega) (fun e => h3 (by rw [HVH.out]; exact e.symm)))).trans (Below.heap_alloc W _ g h2)); have HKP := Lib.hid hkeep; have d1 : w2.cell? ⟨sb, 9, none⟩ = some (.slice Ah c.xhds.length ch) := (hg2.cell_far ⟨sb, 9, none⟩ (by show sb < _; simp; omega) (fun e => HLW.out (by rw [HVH.out]; exact e.symm))).trans ((World.cell?_alloc_lt _ _ _ hsl).trans c1); have e1 : w2.frozen? ⟨sb, 9, none⟩ = false := (hg2.frozen_far ⟨sb, 9, none⟩ (by show sb < _; simp; omega) (fun e => HLW.out (by rw [HVH.out]; exact e.symm))).trans ((World.frozen?_of_block (Below.heap_alloc _ _ sb hsl)).trans f1); have hgs := hg2.size; rw [alloc_size] at hgs; obtain ⟨A2, c2', rfl⟩ := own_form hown2; have hS2 := HPU.out.1; have d2 : w2.cell? ⟨sb, 8, none⟩ = some (.slice Ao c.xofs.length co) := (hg2.cell_far ⟨sb, 8, none⟩ (by show sb < _; simp; omega) (fun e => HLW.out (by rw [HVH.out]; exact e.symm))).trans ((World.cell?_alloc_lt _ _ _ hsl).trans c2); have e2 : w2.frozen? ⟨sb, 8, none⟩ = false := (hg2.frozen_far ⟨sb, 8, none⟩ (by show sb < _; simp; omega) (fun e => HLW.out (by rw [HVH.out]; exact e.symm))).trans ((World.frozen?_of_block (Below.heap_alloc _ _ sb hsl)).trans f2); have hoo := hS2.oxo; rw [show ({ c with xh := .slice A2 (c.xhds.length + 1) c2', xhds := c.xhds ++ [h] } : Cs).xo = c.xo from rfl, HVO.out] at hoo; have HOO := Lib.hid hoo; have hrd2 : Rd (w2.setCell ⟨sb, 9, none⟩ (.slice A2 (c.xhds.length + 1) c2')) (fun i => c.b0 ≤ i ∧ i ≠ sb) A (iv r) := (fun hn => by obtain ⟨ad, ea, hl, hgt, hc⟩ := HRR.out hn; exact ⟨ad, ea, by simp [World.setCell]; omega, hgt, fun j u hu => (World.cell?_of_block (by rw [Me.block_add]; exact HKP.out ad.block hgt.2 hl (HAP.out ad ea))).trans (hc j u hu)⟩); have HR2 := Lib.hid hrd2; have HS2 := Lib.hid hS2; have HB2 := Lib.hid HPU.out.2; clear hown2 hg2 hat2 hnil2 hkeep hS2 hoo hrd2 HPU)
    | (refine wpList_app _ rfl (.tmp 21) (.tmp 22) 28 rfl c.b0 3 i0 _ 1 8 Try.underlying28 HI.out HZ.out.1 HZ.out.2.1 HZ.out.2.2 rfl (by decide) (.slice Ao c.xofs.length co) c.xofs.length (iv c.xofs) (by simp [Act.eval]) HOO.out (fun b => c.b0 ≤ b ∧ b ≠ sb) A r.length cp (iv r) (by simp [Act.eval]) (by rw [iv_len]; omega) HR2.out (iv_one r) hl2 (by omega) (by simp [World.setCell]; omega) ?_; intro v3 w3 hown3 hg3 hat3 hnil3; have HPU := Lib.hid (Pk.Se.grow (W2 := w3) HS2.out { c with xh := .slice A2 (c.xhds.length + 1) c2', xhds := c.xhds ++ [h], xo := v3, xofs := c.xofs ++ r } 8 (Below.refl _ _) (l1 := [oi c.dv c.dn, oi c.bv c.bl, oi c.no c.nofs, oi c.nh c.nhds]) (l2 := [oi (.slice A2 (c.xhds.length + 1) c2') (c.xhds ++ [h]), ⟨turnT, 4, c.tv, c.ts.length, tcells c.ts.reverse⟩, oi c.fv c.fl]) (x := oi c.xo c.xofs) (oi v3 (c.xofs ++ r)) rfl rfl rfl (oi_app hown3) (by show World.grownBy _ _ c.xo.ownBlock; rw [HVO.out]; exact hg3) (by show v3.ownBlock = c.xo.ownBlock ∨ _; rw [HVO.out]; exact hat3) rfl rfl rfl rfl rfl HS2.out.fit); have g2 : w3.cell? ⟨sb, 8, none⟩ = some (.slice Ao c.xofs.length co) := (hg3.cell_far ⟨sb, 8, none⟩ (by show sb < _; simp [World.setCell]; omega) (fun e => HLO.out (by rw [HVO.out]; exact e.symm))).trans ((HS2.out.cell 8).trans ((rfl : _ = some c.xo).trans (congrArg some HVO.out))); have k2 : w3.frozen? ⟨sb, 8, none⟩ = false := (hg3.frozen_far ⟨sb, 8, none⟩ (by show sb < _; simp [World.setCell]; omega) (fun e => HLO.out (by rw [HVO.out]; exact e.symm))).trans (HS2.out.row.frozen 8); obtain ⟨A3, c3, rfl⟩ := own_form hown3; clear hown3 hg3 hat3 hnil3)
    ))
  ((try simp only [Exit.inBlock, Exit.then]); first | (refine bodyPost_ret (results_none rfl _ _ _) rfl ?_) | (refine bodyPost_end (results_none rfl _ _ _) rfl ?_))
  exact ⟨rfl, HB2.out.trans HPU.out.2, _, _, HPU.out.1⟩

set_option maxRecDepth 100000 in
set_option maxHeartbeats 4000000 in
theorem add_now {W : World} {sb : Nat} {c : Pk.Cs} (hS : Pk.Se W sb c) (h : Int) (A : Option Addr) (r : List Int) (m cp : Nat) (hm : m = r.length) (hr : Rd W (fun i => c.b0 ≤ i ∧ i ≠ sb) A (iv r)) (hap : ∀ ad, A = some ad → c.nh.ownBlock ≠ some ad.block) (hlh : c.nhds.length ≤ 1048576) (hlo : c.nofs.length ≤ 1073741824) (hlr : r.length ≤ 1048576) :
    Calls Try.prog 39 #[.pointer (some ⟨sb, 4, none⟩), .int .i64 h, .slice A m cp] W fun e W' => e = .returned (.tuple #[]) ∧ Below c.b0 W W' ∧ ∃ v1 v2, Pk.Se W' sb { c with no := v1, nh := v2, nofs := c.nofs ++ r, nhds := c.nhds ++ [h] } := by
  subst hm
  obtain ⟨i0, hi0, hz0, hz1, hz2⟩ := info_parts Pk.int_info
  have HI := Lib.hid hi0
  have HZ := Lib.hid (And.intro hz0 (And.intro hz1 hz2))
  clear hi0 hz0 hz1 hz2
  have hsl := hS.lt
  have hle := hS.le
  have c1 : W.cell? ⟨sb, 6, none⟩ = some c.nh := (hS.cell 6).trans rfl
  have f1 := hS.row.frozen 6
  have c2 : W.cell? ⟨sb, 5, none⟩ = some c.no := (hS.cell 5).trans rfl
  have f2 := hS.row.frozen 5
  obtain ⟨Ah, ch, hvh⟩ := own_form hS.onh
  obtain ⟨Ao, co, hvo⟩ := own_form hS.ono
  have hnh := World.ownsRow.lt hS.onh
  rw [hvh] at c1
  rw [hvo] at c2
  have HOH : Hid ((W.alloc (.cells #[.int .i64 h] 3)).ownsRow c.b0 3 1 (.slice Ah c.nhds.length ch) c.nhds.length (iv c.nhds)) := Lib.hid (hvh ▸ (owns_keep hS.onh fun b hb => Below.heap_alloc _ _ _ (hnh b hb).2))
  have HRD : Hid (Rd (W.alloc (.cells #[.int .i64 h] 3)) (fun b => b = W.heap.size) (some ⟨W.heap.size, 0, none⟩) [.int .i64 h]) := Lib.hid (Rd.fresh W [.int .i64 h] 3 _ rfl)
  have HVH : Hid (c.nh = .slice Ah c.nhds.length ch) := Lib.hid hvh
  have HVO : Hid (c.no = .slice Ao c.nofs.length co) := Lib.hid hvo
  have HS := Lib.hid hS
  have HRR := Lib.hid hr
  have HAP := Lib.hid hap
  have HLW : Hid (c.nh.ownBlock ≠ some sb) := Lib.hid hS.nhne
  have HLO : Hid (c.no.ownBlock ≠ some sb) := Lib.hid hS.none_
  have hl1 : c.nhds.length + 1 ≤ maxLen := by unfold maxLen; omega
  have hl2 : c.nofs.length + r.length ≤ maxLen := by unfold maxLen; omega
  have HBB : Hid (Below W.heap.size W (W.alloc (.cells #[.int .i64 h] 3))) := Lib.hid ((Below.refl _ W).alloc (Nat.le_refl _) _)
  clear hS hr hvh hnh hap hvo
  go_enter Try.func39, Try.ntmps39
  go_wp2_with (at_builtin; go_must (first
    | (refine wpList_app _ rfl (.tmp 10) (.tmp 12) 28 rfl c.b0 3 i0 _ 1 8 Try.underlying28 HI.out HZ.out.1 HZ.out.2.1 HZ.out.2.2 rfl (by decide) (.slice Ah c.nhds.length ch) c.nhds.length (iv c.nhds) (by simp [Act.eval]) HOH.out (fun b => b = W.heap.size) (some ⟨W.heap.size, 0, none⟩) 1 1 [.int .i64 h] (by simp [Act.eval]) (by simp) HRD.out (by intro u hu; simp at hu; subst hu; rfl) hl1 (by omega) (by simp; omega) ?_; intro v2 w2 hown2 hg2 hat2 hnil2; have HPU := Lib.hid (Pk.Se.grow (W2 := w2) HS.out { c with nh := v2, nhds := c.nhds ++ [h] } 6 HBB.out (l1 := [oi c.dv c.dn, oi c.bv c.bl, oi c.no c.nofs]) (l2 := [oi c.xo c.xofs, oi c.xh c.xhds, ⟨turnT, 4, c.tv, c.ts.length, tcells c.ts.reverse⟩, oi c.fv c.fl]) (x := oi c.nh c.nhds) (oi v2 (c.nhds ++ [h])) rfl rfl rfl (oi_app (r := [h]) hown2) (by show World.grownBy _ _ c.nh.ownBlock; rw [HVH.out]; exact hg2) (by show v2.ownBlock = c.nh.ownBlock ∨ _; rw [HVH.out]; exact hat2) rfl rfl rfl rfl rfl HS.out.fit); have hkeep : ∀ g, g ≠ sb → g < W.heap.size → c.nh.ownBlock ≠ some g → (w2.setCell ⟨sb, 6, none⟩ v2).heap[g]? = W.heap[g]? := (fun g h1 h2 h3 => ((Below.heap_setCell w2 _ _ g h1).trans (hg2.block g (by rw [alloc_size]; omega) (fun e => h3 (by rw [HVH.out]; exact e.symm)))).trans (Below.heap_alloc W _ g h2)); have HKP := Lib.hid hkeep; have d1 : w2.cell? ⟨sb, 6, none⟩ = some (.slice Ah c.nhds.length ch) := (hg2.cell_far ⟨sb, 6, none⟩ (by show sb < _; simp; omega) (fun e => HLW.out (by rw [HVH.out]; exact e.symm))).trans ((World.cell?_alloc_lt _ _ _ hsl).trans c1); have e1 : w2.frozen? ⟨sb, 6, none⟩ = false := (hg2.frozen_far ⟨sb, 6, none⟩ (by show sb < _; simp; omega) (fun e => HLW.out (by rw [HVH.out]; exact e.symm))).trans ((World.frozen?_of_block (Below.heap_alloc _ _ sb hsl)).trans f1); have hgs := hg2.size; rw [alloc_size] at hgs; obtain ⟨A2, c2', rfl⟩ := own_form hown2; have hS2 := HPU.out.1; have d2 : w2.cell? ⟨sb, 5, none⟩ = some (.slice Ao c.nofs.length co) := (hg2.cell_far ⟨sb, 5, none⟩ (by show sb < _; simp; omega) (fun e => HLW.out (by rw [HVH.out]; exact e.symm))).trans ((World.cell?_alloc_lt _ _ _ hsl).trans c2); have e2 : w2.frozen? ⟨sb, 5, none⟩ = false := (hg2.frozen_far ⟨sb, 5, none⟩ (by show sb < _; simp; omega) (fun e => HLW.out (by rw [HVH.out]; exact e.symm))).trans ((World.frozen?_of_block (Below.heap_alloc _ _ sb hsl)).trans f2); have hoo := hS2.ono; rw [show ({ c with nh := .slice A2 (c.nhds.length + 1) c2', nhds := c.nhds ++ [h] } : Cs).no = c.no from rfl, HVO.out] at hoo; have HOO := Lib.hid hoo; have hrd2 : Rd (w2.setCell ⟨sb, 6, none⟩ (.slice A2 (c.nhds.length + 1) c2')) (fun i => c.b0 ≤ i ∧ i ≠ sb) A (iv r) := (fun hn => by obtain ⟨ad, ea, hl, hgt, hc⟩ := HRR.out hn; exact ⟨ad, ea, by simp [World.setCell]; omega, hgt, fun j u hu => (World.cell?_of_block (by rw [Me.block_add]; exact HKP.out ad.block hgt.2 hl (HAP.out ad ea))).trans (hc j u hu)⟩); have HR2 := Lib.hid hrd2; have HS2 := Lib.hid hS2; have HB2 := Lib.hid HPU.out.2; clear hown2 hg2 hat2 hnil2 hkeep hS2 hoo hrd2 HPU)
    | (refine wpList_app _ rfl (.tmp 21) (.tmp 22) 28 rfl c.b0 3 i0 _ 1 8 Try.underlying28 HI.out HZ.out.1 HZ.out.2.1 HZ.out.2.2 rfl (by decide) (.slice Ao c.nofs.length co) c.nofs.length (iv c.nofs) (by simp [Act.eval]) HOO.out (fun b => c.b0 ≤ b ∧ b ≠ sb) A r.length cp (iv r) (by simp [Act.eval]) (by rw [iv_len]; omega) HR2.out (iv_one r) hl2 (by omega) (by simp [World.setCell]; omega) ?_; intro v3 w3 hown3 hg3 hat3 hnil3; have HPU := Lib.hid (Pk.Se.grow (W2 := w3) HS2.out { c with nh := .slice A2 (c.nhds.length + 1) c2', nhds := c.nhds ++ [h], no := v3, nofs := c.nofs ++ r } 5 (Below.refl _ _) (l1 := [oi c.dv c.dn, oi c.bv c.bl]) (l2 := [oi (.slice A2 (c.nhds.length + 1) c2') (c.nhds ++ [h]), oi c.xo c.xofs, oi c.xh c.xhds, ⟨turnT, 4, c.tv, c.ts.length, tcells c.ts.reverse⟩, oi c.fv c.fl]) (x := oi c.no c.nofs) (oi v3 (c.nofs ++ r)) rfl rfl rfl (oi_app hown3) (by show World.grownBy _ _ c.no.ownBlock; rw [HVO.out]; exact hg3) (by show v3.ownBlock = c.no.ownBlock ∨ _; rw [HVO.out]; exact hat3) rfl rfl rfl rfl rfl HS2.out.fit); have g2 : w3.cell? ⟨sb, 5, none⟩ = some (.slice Ao c.nofs.length co) := (hg3.cell_far ⟨sb, 5, none⟩ (by show sb < _; simp [World.setCell]; omega) (fun e => HLO.out (by rw [HVO.out]; exact e.symm))).trans ((HS2.out.cell 5).trans ((rfl : _ = some c.no).trans (congrArg some HVO.out))); have k2 : w3.frozen? ⟨sb, 5, none⟩ = false := (hg3.frozen_far ⟨sb, 5, none⟩ (by show sb < _; simp [World.setCell]; omega) (fun e => HLO.out (by rw [HVO.out]; exact e.symm))).trans (HS2.out.row.frozen 5); obtain ⟨A3, c3, rfl⟩ := own_form hown3; clear hown3 hg3 hat3 hnil3)
    ))
  ((try simp only [Exit.inBlock, Exit.then]); first | (refine bodyPost_ret (results_none rfl _ _ _) rfl ?_) | (refine bodyPost_end (results_none rfl _ _ _) rfl ?_))
  exact ⟨rfl, HB2.out.trans HPU.out.2, _, _, HPU.out.1⟩
end Go.Proofs.Ytelbabgkpflckaa
