/-
  TrCmp: CONTRACTS: the library's slices.Compare over texts.
  TrSortF: CONTRACTS: the library's slices.SortFunc over finds.
  TrDeep: CONTRACTS: package trie: search, whole; what is found is what the document finds.
-/
import Derived.Test.YtfmbbhcjnidcbaaGreatDoorJ40
import Derived.WalkSpells

namespace Go.Proofs.YtfmbbhcjnidcbaaGreatDoor
open Go.RowKit
open Me
namespace Tr
/-- How two texts compare, and two rows of them. -/
def cmpS (a b : List UInt8) : Int := if a < b then -1 else if b < a then 1 else 0
def cmpP (a b : Path) : Int := if a = b then 0 else if ltP a b = true then -1 else 1
end Tr

set_option maxHeartbeats 1000000 in
theorem isNaN_str (x : List UInt8) (w : World) : Calls Tryz.prog 104 #[.string ⟨x.toArray⟩] w fun e w' => e = .returned (.bool false) ∧ w' = w := by
  have hself : (x != x) = false := by simp
  have hself2 : (x == x) = true := by simp
  go_enter Tryz.func104, Tryz.ntmps104
  go_wp2_with fail
  go_ret
  exact ⟨rfl, rfl⟩

set_option maxHeartbeats 1000000 in
theorem compare_str (x y : List UInt8) (w : World) : Calls Tryz.prog 70 #[.string ⟨x.toArray⟩, .string ⟨y.toArray⟩] w fun e w' => e = .returned (.int .i64 (Tr.cmpS x y)) ∧ w' = w := by
  rcases Tr.bl_tot x y with h | h | h
  · subst h
    have hb : Op.bytesLess x x = false := by rw [Go.Proofs.bytesLess_eq]; exact decide_eq_false (Tr.bl_irr x)
    have he : (x == x) = true := by simp
    have hc : Tr.cmpS x x = 0 := by unfold Tr.cmpS; rw [if_neg (Tr.bl_irr x), if_neg (Tr.bl_irr x)]
    rw [hc]
    clear hc
    go_enter Tryz.func70, Tryz.ntmps70
    go_wp2_with (go_at_call 104; go_must (refine (isNaN_str _ _).mono ?_; rintro e w1 ⟨rfl, rfl⟩))
    go_ret
    exact ⟨rfl, rfl⟩
  · have hb : Op.bytesLess x y = true := by rw [Go.Proofs.bytesLess_eq]; exact decide_eq_true h
    have hc : Tr.cmpS x y = -1 := by unfold Tr.cmpS; rw [if_pos h]
    rw [hc]
    clear hc h
    go_enter Tryz.func70, Tryz.ntmps70
    go_wp2_with (go_at_call 104; go_must (refine (isNaN_str _ _).mono ?_; rintro e w1 ⟨rfl, rfl⟩))
    go_ret
    exact ⟨rfl, rfl⟩
  · have hn : ¬ x < y := fun h2 => Tr.bl_irr _ (Tr.bl_tr h h2)
    have hb : Op.bytesLess x y = false := by rw [Go.Proofs.bytesLess_eq]; exact decide_eq_false hn
    have he : (x == y) = false := by rw [beq_eq_false_iff_ne]; rintro rfl; exact Tr.bl_irr _ h
    have hc : Tr.cmpS x y = 1 := by unfold Tr.cmpS; rw [if_neg hn, if_pos h]
    rw [hc]
    clear hc hn h
    go_enter Tryz.func70, Tryz.ntmps70
    go_wp2_with (go_at_call 104; go_must (refine (isNaN_str _ _).mono ?_; rintro e w1 ⟨rfl, rfl⟩))
    go_ret
    exact ⟨rfl, rfl⟩
namespace Tr
theorem cmpS_cases (x y : List UInt8) : (x = y ∧ cmpS x y = 0) ∨ (x < y ∧ x ≠ y ∧ cmpS x y = -1) ∨ (y < x ∧ x ≠ y ∧ cmpS x y = 1) := by
  rcases bl_tot x y with h | h | h
  · subst h; left; exact ⟨rfl, by unfold cmpS; rw [if_neg (bl_irr x), if_neg (bl_irr x)]⟩
  · right; left; exact ⟨h, by rintro rfl; exact bl_irr _ h, by unfold cmpS; rw [if_pos h]⟩
  · right; right; exact ⟨h, by rintro rfl; exact bl_irr _ h, by unfold cmpS; rw [if_neg (fun h2 => bl_irr _ (bl_tr h h2)), if_pos h]⟩
theorem cmpP_lt {a b : Path} (h : ltP a b = true) : cmpP a b = -1 := by
  unfold cmpP
  rw [if_neg (by rintro rfl; rw [ltP_irr] at h; cases h), if_pos h]
theorem cmpP_gt {a b : Path} (h : ltP b a = true) : cmpP a b = 1 := by
  unfold cmpP
  rw [if_neg (by rintro rfl; rw [ltP_irr] at h; cases h), if_neg (fun h2 => by have := ltP_tr h h2; rw [ltP_irr] at this; cases this)]
theorem cmpP_at {a b : Path} {i : Nat} (he : a.take i = b.take i) (ha : i < a.length) (hb : i < b.length) (hc : cmpS a[i] b[i] ≠ 0) : cmpS a[i] b[i] = cmpP a b := by
  rcases cmpS_cases a[i] b[i] with ⟨_, h⟩ | ⟨h1, h2, h3⟩ | ⟨h1, h2, h3⟩
  · exact absurd h hc
  · rw [h3, cmpP_lt]
    rw [ltP_at i he, List.drop_eq_getElem_cons ha, List.drop_eq_getElem_cons hb, ltP_cons, if_neg h2]
    exact decide_eq_true h1
  · rw [h3, cmpP_gt]
    rw [ltP_at i he.symm, List.drop_eq_getElem_cons ha, List.drop_eq_getElem_cons hb, ltP_cons, if_neg (Ne.symm h2)]
    exact decide_eq_true h1
theorem cmpP_more {a b : Path} {i : Nat} (he : a.take i = b.take i) (ha : i < a.length) (hb : i = b.length) : cmpP a b = 1 := by
  refine cmpP_gt ?_
  rw [ltP_at i he.symm, hb, List.drop_length, ← hb, List.drop_eq_getElem_cons ha]
  rfl
theorem cmpP_less {a b : Path} {i : Nat} (he : a.take i = b.take i) (ha : i = a.length) (hb : i < b.length) : cmpP a b = -1 := by
  refine cmpP_lt ?_
  rw [ltP_at i he, ha, List.drop_length, ← ha, List.drop_eq_getElem_cons hb]
  rfl
theorem cmpP_same {a b : Path} {i : Nat} (he : a.take i = b.take i) (ha : i = a.length) (hb : i = b.length) : cmpP a b = 0 := by
  rw [ha, List.take_length, ← ha, hb, List.take_length] at he
  unfold cmpP; rw [if_pos he]
end Tr

set_option maxRecDepth 100000 in
set_option maxHeartbeats 1000000 in
theorem compare_paths (a b : Tr.Path) (ga ca gb cb : Nat) (w : World) (ha : Tr.RowS w ga 0 a) (hb : Tr.RowS w gb 0 b) (ha9 : a.length ≤ 1048576) (hb9 : b.length ≤ 1048576) :
    Calls Tryz.prog 43 #[.slice (some ⟨ga, 0, none⟩) a.length ca, .slice (some ⟨gb, 0, none⟩) b.length cb] w fun e w' => e = .returned (.int .i64 (Tr.cmpP a b)) ∧ w' = w := by
  have HA := Lib.hid ha
  have HB := Lib.hid hb
  have HAt := Lib.hid (fun i he h1 h2 h3 => @Tr.cmpP_at a b i he h1 h2 h3)
  have HMo := Lib.hid (fun i he h1 h2 => @Tr.cmpP_more a b i he h1 h2)
  have HLe := Lib.hid (fun i he h1 h2 => @Tr.cmpP_less a b i he h1 h2)
  have HSa := Lib.hid (fun i he h1 h2 => @Tr.cmpP_same a b i he h1 h2)
  have han : (a.length : Int) ≤ 1048576 := by omega
  have hbn : (b.length : Int) ≤ 1048576 := by omega
  clear ha hb
  generalize Tr.cmpP a b = R at *
  go_enter Tryz.func43, Tryz.ntmps43
  go_wp2_with fail
  go_loopw [11] (fun i wr => ∃ k : Nat, k ≤ a.length ∧ k ≤ b.length ∧ i = .int .i64 k ∧ Hid (a.take k = b.take k) ∧ wr = w) (fun i _ => a.length - (intOf i).toNat)
  case atStart => exact ⟨0, Nat.zero_le _, Nat.zero_le _, rfl, Lib.hid rfl, rfl⟩
  case round =>
    obtain ⟨k, hk, hkb, rfl, HE, rfl⟩ := hrel
    have hk0 : (0 : Int) ≤ (k : Int) := by omega
    by_cases hlt : k < a.length
    · have ea := HA.out.cell k hlt
      rw [Nat.zero_add] at ea
      have hkl : (k : Int) < (a.length : Int) := by omega
      by_cases hlb : k < b.length
      · have eb := HB.out.cell k hlb
        rw [Nat.zero_add] at eb
        have hkbl : (k : Int) < (b.length : Int) := by omega
        have hnb : ¬ (b.length : Int) ≤ (k : Int) := by omega
        have HAk := Lib.hid (HAt.out k HE.out hlt hlb)
        have HEn : Hid (Tr.cmpS a[k] b[k] = 0 → a.take (k + 1) = b.take (k + 1)) := Lib.hid fun h0 => by
          rw [List.take_succ_eq_append_getElem hlt, List.take_succ_eq_append_getElem hlb, HE.out]
          rcases Tr.cmpS_cases a[k] b[k] with ⟨h, _⟩ | ⟨_, _, h⟩ | ⟨_, _, h⟩
          · rw [h]
          · rw [h] at h0; cases h0
          · rw [h] at h0; cases h0
        have HCm := Lib.hid (compare_str a[k] b[k])
        generalize Tr.cmpS a[k] b[k] = cc at *
        generalize a[k] = x at *
        generalize b[k] = y at *
        by_cases h0 : cc = 0
        · subst h0
          have HEn2 := Lib.hid (HEn.out rfl)
          clear HEn HAk
          go_wp2_with (go_at_call 70; go_must (refine (HCm.out _).mono ?_; rintro e w1 ⟨rfl, rfl⟩))
          go_roundw
          case rel => exact ⟨k + 1, by omega, by omega, by go_num, HEn2, by first | rfl | trivial⟩
          case measure => simp [intOf]; omega
        · have hcz : (cc == 0) = false := by simpa using h0
          have hR := HAk.out h0
          clear HEn HAk h0
          subst hR
          go_wp2_with (go_at_call 70; go_must (refine (HCm.out _).mono ?_; rintro e w1 ⟨rfl, rfl⟩))
          go_ret
          exact ⟨rfl, rfl⟩
      · obtain rfl : k = b.length := by omega
        have hR := HMo.out b.length HE.out hlt rfl
        subst hR
        go_wp2_with fail
        go_ret
        exact ⟨rfl, rfl⟩
    · obtain rfl : k = a.length := by omega
      by_cases hlb : a.length < b.length
      · have hlbn : (a.length : Int) < (b.length : Int) := by omega
        have hR := HLe.out a.length HE.out rfl hlb
        subst hR
        go_wp2_with fail
        go_ret
        exact ⟨rfl, rfl⟩
      · have hlbn : ¬ (a.length : Int) < (b.length : Int) := by omega
        have hR := HSa.out a.length HE.out rfl (by omega)
        subst hR
        go_wp2_with fail
        go_ret
        exact ⟨rfl, rfl⟩

set_option maxRecDepth 100000 in
set_option maxHeartbeats 1000000 in
/-- The order of finds. -/
theorem closure_any (p1 p2 : Value) (a b : Tr.Path) (ga ca gb cb : Nat) (w : World) (ha : Tr.RowS w ga 0 a) (hb : Tr.RowS w gb 0 b) (ha9 : a.length ≤ 1048576) (hb9 : b.length ≤ 1048576) :
    Calls Tryz.prog 42 #[.agg #[p1, .slice (some ⟨ga, 0, none⟩) a.length ca], .agg #[p2, .slice (some ⟨gb, 0, none⟩) b.length cb]] w fun e w' => e = .returned (.int .i64 (Tr.cmpP a b)) ∧ ∃ o1 o2, w' = (w.alloc o1).alloc o2 := by
  have HC : Hid (∀ W, Below w.heap.size w W → Calls Tryz.prog 43 #[.slice (some ⟨ga, 0, none⟩) a.length ca, .slice (some ⟨gb, 0, none⟩) b.length cb] W fun e w' => e = .returned (.int .i64 (Tr.cmpP a b)) ∧ w' = W) := Lib.hid fun W h => compare_paths a b ga ca gb cb W (ha.below h) (hb.below h) ha9 hb9
  clear ha hb
  generalize Tr.cmpP a b = R at *
  go_enter Tryz.func42, Tryz.ntmps42
  go_wp2_with (go_at_call 43; go_must (refine (HC.out _ (((Below.refl _ _).alloc (Nat.le_refl _) _).alloc (by simp) _)).mono ?_; rintro e w1 ⟨rfl, rfl⟩))
  go_ret
  exact ⟨rfl, _, _, rfl⟩
end Go.Proofs.YtfmbbhcjnidcbaaGreatDoor

namespace Go.Proofs.YtfmbbhcjnidcbaaGreatDoor
open Go.RowKit Go.Shelf Go.Sort
open Me
namespace Tr
theorem fvs_get : ∀ (L : List Fd) (k : Nat) (h : k < L.length), (fvs L)[k * 2]? = some (.pointer (some ⟨L[k].b, 0, none⟩)) ∧ (fvs L)[k * 2 + 1]? = some L[k].v
  | a :: r, 0, _ => ⟨rfl, rfl⟩
  | a :: r, k + 1, h => by
    obtain ⟨h1, h2⟩ := fvs_get r k (by simpa using h)
    have e : fvs (a :: r) = .pointer (some ⟨a.b, 0, none⟩) :: a.v :: fvs r := rfl
    refine ⟨?_, ?_⟩
    · rw [e, show (k + 1) * 2 = k * 2 + 1 + 1 by omega, List.getElem?_cons_succ, List.getElem?_cons_succ, h1]; rfl
    · rw [e, show (k + 1) * 2 + 1 = k * 2 + 1 + 1 + 1 by omega, List.getElem?_cons_succ, List.getElem?_cons_succ, h2]; rfl
theorem heap_grow (w : World) (os : Array Obj) (i : Nat) (hi : i < w.heap.size) : (Sort.grow w os).heap[i]? = w.heap[i]? := by
  simp [Sort.grow, Array.getElem?_append, hi]
theorem heap_putRowK {α : Type} [Inhabited α] (enc : α → List Value) (k : Nat) (w : World) (blk off : Nat) (d : Array α) (i : Nat) (hi : i ≠ blk) : (putRowK enc k w blk off d).heap[i]? = w.heap[i]? := by
  unfold putRowK putRow mapBlock
  simp [Array.getElem?_modify, Ne.symm hi]
theorem size_putK {α : Type} [Inhabited α] (enc : α → List Value) (k : Nat) (w : World) (blk off : Nat) (d : Array α) : (putRowK enc k w blk off d).heap.size = w.heap.size := by
  unfold putRowK putRow mapBlock
  simp
theorem kp_sort {α : Type} [Inhabited α] (enc : α → List Value) (k : Nat) (w : World) (blk off m : Nat) (d : Array α) (os : Array Obj) : Kp (fun i => i = blk) w (sortWorldK enc k w blk off m d os) := by
  have hs : (putRowK enc k (Sort.ahead w m) blk off d).heap.size = w.heap.size := size_putK enc k (Sort.ahead w m) blk off d
  refine ⟨rfl, rfl, rfl, ?_, fun i hi hn => ?_⟩
  · unfold sortWorldK
    simp [Sort.grow, hs]
  · unfold sortWorldK
    rw [heap_grow _ _ i (by rw [hs]; exact hi), heap_putRowK enc k _ blk off d i hn]
    rfl
theorem ltP_swo {α : Type} (f : α → Path) : SWO (ltOf fun x y : α => cmpP (f x) (f y)) := by
  have e : ∀ x y, ltOf (fun x y : α => cmpP (f x) (f y)) x y = ltP (f x) (f y) := fun x y => by
    show decide (cmpP (f x) (f y) < 0) = _
    rcases ltP_tot (f x) (f y) with h | h | h
    · rw [h, ltP_irr]; unfold cmpP; rw [if_pos rfl]; rfl
    · rw [cmpP_lt h, h]; rfl
    · have hn : ltP (f x) (f y) = false := by
        cases e : ltP (f x) (f y) with
        | false => rfl
        | true => have := ltP_tr h e; rw [ltP_irr] at this; cases this
      rw [cmpP_gt h, hn]; rfl
  refine ⟨fun x => by rw [e, ltP_irr], fun x y z h1 h2 => by rw [e] at *; exact ltP_tr h1 h2, fun x y z h1 h2 => ?_⟩
  rw [e] at *
  cases h : ltP (f x) (f z) with
  | false => rfl
  | true =>
    rcases ltP_tot (f x) (f y) with h3 | h3 | h3
    · rw [h3] at h; rw [h] at h2; cases h2
    · rw [h3] at h1; cases h1
    · have := ltP_tr h3 h; rw [this] at h2; cases h2
theorem ltOf_ltP {α : Type} (f : α → Path) (x y : α) : ltOf (fun x y : α => cmpP (f x) (f y)) x y = false → f x = f y ∨ ltP (f y) (f x) = true := by
  intro h
  rcases ltP_tot (f x) (f y) with h1 | h1 | h1
  · exact .inl h1
  · have h' : decide (cmpP (f x) (f y) < 0) = false := h
    rw [cmpP_lt h1] at h'
    cases h'
  · exact .inr h1
set_option maxHeartbeats 1000000 in
/-- The finds, in order. -/
theorem sortFinds {base : Nat} {w : World} (L : List Fd) (hL : L ≠ []) {g cap : Nat} (ho : OwnF base w (.slice (some ⟨g, 0, none⟩) L.length cap) L) (hfs : ∀ f ∈ L, OwnS base w f.v f.q) (hq : ∀ f ∈ L, f.q ≠ [] ∧ f.q.length ≤ 1048576) (hn : (L.map (·.q)).Nodup) (h9 : L.length ≤ 1048576) :
    Calls Tryz.prog 41 #[.slice (some ⟨g, 0, none⟩) L.length cap, .func (.func 42) #[] #[]] w fun e w' => e = .returned (.tuple #[]) ∧ ∃ L' : List Fd, L'.Perm L ∧ L'.Pairwise (fun a b => ltP a.q b.q = true) ∧
      (∀ j (h : j < L'.length), w'.cell? ⟨g, j * 2, none⟩ = some (.pointer (some ⟨L'[j].b, 0, none⟩)) ∧ w'.cell? ⟨g, j * 2 + 1, none⟩ = some L'[j].v) ∧ Kp (fun i => i = g) w w' := by
  obtain ⟨f0, hf0⟩ : ∃ f0, f0 ∈ L := ⟨_, List.head_mem hL⟩
  let α := {f : Fd // f ∈ L}
  haveI : Inhabited α := ⟨⟨f0, hf0⟩⟩
  let enc : α → List Value := fun f => [.pointer (some ⟨f.1.b, 0, none⟩), f.1.v]
  let d : Array α := L.attach.toArray
  have hds : d.size = L.length := by
    show L.attach.toArray.size = _
    rw [List.size_toArray, List.length_attach]
  have hdj : ∀ j (h : j < L.length), (d[j]!).1 = L[j] := by
    intro j h
    rw [getElem!_pos d j (by rw [hds]; exact h)]
    show (L.attach.toArray[j]'_).1 = _
    rw [List.getElem_toArray, List.getElem_attach]
  have hg : g < w.heap.size := (World.ownsRow.lt ho g rfl).2
  obtain ⟨cur, hcur⟩ := row_cells ho (g := g) rfl
  have hform : ∀ f ∈ L, ∃ gx cx, f.v = .slice (some ⟨gx, 0, none⟩) f.q.length cx := fun f hf => OwnS.form (hfs f hf) (List.length_pos_iff.2 (hq f hf).1)
  have hH : HoldsK enc 2 w g 0 d := by
    intro t ht
    have ht' : t < d.size * 2 := by simpa using ht
    refine ⟨?_, frozen_of_row w g _ cur _ hcur⟩
    rw [get_flatK _ _ _ _ ht']
    have hj : t / 2 < L.length := by omega
    obtain ⟨h1, h2⟩ := fvs_get L (t / 2) hj
    obtain ⟨b, o, e1, _, _, hc⟩ := (Rd.own ho).lit t (by rw [fvs_len]; omega)
    simp only [Option.some.injEq, Addr.mk.injEq, and_true] at e1
    obtain ⟨rfl, rfl⟩ := e1
    have ee : enc d[t / 2]! = [.pointer (some ⟨L[t / 2].b, 0, none⟩), L[t / 2].v] := by
      show [_, _] = _
      rw [hdj _ hj]
    rw [ee]
    rcases Nat.mod_two_eq_zero_or_one t with h | h
    · rw [h]
      have := hc t _ (by rw [← h1]; congr 1; omega)
      rw [this]; rfl
    · rw [h]
      have := hc t _ (by rw [← h2]; congr 1; omega)
      rw [this]; rfl
  have hcmp : CmpLays Tryz.prog 42 #[] enc 2 (fun x y : α => cmpP x.1.q y.1.q) g 0 d.size w := by
    intro m os dk hdk x y
    have hk := kp_sort enc 2 w g 0 m dk os
    have row : ∀ z : α, ∀ gx cx, z.1.v = .slice (some ⟨gx, 0, none⟩) z.1.q.length cx → RowS (sortWorldK enc 2 w g 0 m dk os) gx 0 z.1.q := by
      intro z gx cx hz
      have h1 := hfs z.1 z.2
      rw [hz] at h1
      exact (RowS.of_own h1).kp hk fun e => by
        subst e
        exact rows_ne h1 ho ne_str_find rfl rfl
    obtain ⟨gx, cx, hx⟩ := hform x.1 x.2
    obtain ⟨gy, cy, hy⟩ := hform y.1 y.2
    have h3 := closure_any (.pointer (some ⟨x.1.b, 0, none⟩)) (.pointer (some ⟨y.1.b, 0, none⟩)) x.1.q y.1.q gx cx gy cy (sortWorldK enc 2 w g 0 m dk os) (row x gx cx hx) (row y gy cy hy) (hq _ x.2).2 (hq _ y.2).2
    have ex : (enc x).toArray = #[.pointer (some ⟨x.1.b, 0, none⟩), .slice (some ⟨gx, 0, none⟩) x.1.q.length cx] := by show #[_, x.1.v] = _; rw [hx]
    have ey : (enc y).toArray = #[.pointer (some ⟨y.1.b, 0, none⟩), .slice (some ⟨gy, 0, none⟩) y.1.q.length cy] := by show #[_, y.1.v] = _; rw [hy]
    rw [ex, ey]
    refine h3.mono ?_
    rintro e w' ⟨he, o1, o2, hw⟩
    refine ⟨he, 0, #[o1, o2], ?_⟩
    rw [hw, alloc_eq_grow, alloc_eq_grow, grow_grow]
    rfl
  have hr := AnyQ.slices_SortFunc (P := Tryz.prog) Tryz.trSortF 2 (fun w => Tryz.isAgg80 w) (fun w => Tryz.sizeOf80 w) enc (fun _ => rfl) (fun x v hv => by
    obtain ⟨gx, cx, hx⟩ := hform x.1 x.2
    have hv' : v = .pointer (some ⟨x.1.b, 0, none⟩) ∨ v = x.1.v := by simpa [enc] using hv
    rcases hv' with rfl | rfl
    · rfl
    · rw [hx]; rfl) (fun x y : α => cmpP x.1.q y.1.q) (ltP_swo fun x : α => x.1.q) 42 #[] g 0 cap d w (enters_of Tryz.func42 (by kernel_rfl) rfl) hcmp hH hg (by omega)
  rw [hds] at hr
  refine hr.mono ?_
  rintro e w' ⟨he, d', m, os, hp, hs, hw⟩
  have hd's : d'.size = L.length := by rw [hp.1, hds]
  have hperm : d'.toList.Perm d.toList := by
    have h1 := hp.2.2
    have e1 : d'.extract 0 L.length = d' := by rw [← hd's]; simp
    have e2 : d.extract 0 L.length = d := by rw [← hds]; simp
    rw [e1, e2] at h1
    exact h1
  have hLd : d.toList.map Subtype.val = L := by simp [d]
  have hHd := holdsK_sortWorldK_c enc 2 w g 0 d d' m os hH hg (by rw [hd's, hds])
  have hpL : (d'.toList.map Subtype.val).Perm L := by
    have := hperm.map Subtype.val
    rwa [hLd] at this
  have hnd : ((d'.toList.map Subtype.val).map (·.q)).Nodup := (hpL.map (·.q)).nodup_iff.2 hn
  refine ⟨he, d'.toList.map Subtype.val, hpL, ?_, fun j h => ?_, by rw [hw]; exact kp_sort enc 2 w g 0 m d' os⟩
  · refine List.pairwise_iff_getElem.2 fun i j hi hj hij => ?_
    have hi' : i < d'.size := by simpa using hi
    have hj' : j < d'.size := by simpa using hj
    have h1 := hs i j (Nat.zero_le _) hij (by omega)
    have e1 : ∀ t (ht : t < d'.size), (d'[t]!) = d'[t] := fun t ht => getElem!_pos d' t ht
    rw [e1 i hi', e1 j hj'] at h1
    have h2 := ltOf_ltP (fun x : α => x.1.q) _ _ h1
    have e3 : (d'.toList.map Subtype.val)[i] = d'[i].1 := by simp
    have e4 : (d'.toList.map Subtype.val)[j] = d'[j].1 := by simp
    rw [e3, e4]
    rcases h2 with h2 | h2
    · exfalso
      have h5 := List.pairwise_iff_getElem.1 hnd i j (by simpa using hi) (by simpa using hj) hij
      apply h5
      simp
      exact h2.symm
    · exact h2
  · have hj' : j < d'.size := by simpa using h
    have e1 : (d'[j]!) = d'[j] := getElem!_pos d' j hj'
    have e4 : (d'.toList.map Subtype.val)[j] = d'[j].1 := by simp
    have c0 := (hHd.cell hj' (show 0 < 2 by decide)).1
    have c1 := (hHd.cell hj' (show 1 < 2 by decide)).1
    rw [e1] at c0 c1
    rw [e4, hw]
    refine ⟨?_, ?_⟩
    · have : (⟨g, 0 + j * 2 + 0, none⟩ : Addr) = ⟨g, j * 2, none⟩ := by congr 1; omega
      rw [this] at c0
      rw [c0]; rfl
    · have : (⟨g, 0 + j * 2 + 1, none⟩ : Addr) = ⟨g, j * 2 + 1, none⟩ := by congr 1; omega
      rw [this] at c1
      rw [c1]; rfl
end Tr
end Go.Proofs.YtfmbbhcjnidcbaaGreatDoor

namespace Go.Proofs.YtfmbbhcjnidcbaaGreatDoor
open Go.RowKit
open Me

theorem search_deep {base : Nat} {T0 : TypeId} {x0 : Value} {c c2 N D : Nat} {F G : Tr.Ns} (hc9 : c ≤ 1099511627776) (hc29 : c2 ≤ 1099511627776) (h2 : Tr.Two F G N) (hD : ∀ x, F x ≠ none → x.length ≤ D) : ∀ (m : Nat) (q : Tr.Path) (n : Tr.Nd), F q = some n → D ≤ q.length + m → Tr.SeC base T0 x0 c F c2 G q n
  | 0, q, n, hn, h => search_at hn hc9 hc29 h2 (Lib.hid fun k y hy => by
    have := hD (q ++ [k]) (by rw [hy]; simp)
    rw [List.length_append, List.length_singleton] at this
    omega)
  | m + 1, q, n, hn, h => search_at hn hc9 hc29 h2 (Lib.hid fun k y hy => search_deep hc9 hc29 h2 hD m (q ++ [k]) y hy (by rw [List.length_append, List.length_singleton]; omega))

namespace Tr
theorem two_of {F G : Ns} {L T : List (List UInt8)} (hF : Of F L) (hok : ∀ s ∈ L, Nm.is s = true) (hk : ∀ q k, F (q ++ [k]) ≠ none → k.length ≤ 1048576) (hG : Of G T) (hT : T.length ≤ 512) : Two F G 513 where
  fc := hF.closed
  gc := hG.closed
  ok q k h := by
    obtain ⟨_, h1, h2⟩ := hF.path hok h
    rw [List.length_append, List.length_singleton] at h1
    exact ⟨h2 k (by simp), hk q k h, by omega⟩
  dot x a h := by
    obtain ⟨t, _, hp⟩ := hG.live (x ++ [a]) (by simp) h
    exact Nm.pt_noDot t a (hp.subset (by simp))
  thin d P h1 h2 := Nat.le_trans (hG.thin d P h1 h2) (by omega)
  n9 := by decide
theorem Of.back {F : Ns} {L : List (List UInt8)} (h : Of F L) {q : Path} (hq : q ≠ []) (hf : F q ≠ none) : Nm.pt (Nm.jn q) = q := by
  obtain ⟨s, _, hp⟩ := h.live q hq hf
  exact Nm.pt_jn q hq fun p hp' => Nm.pt_noDot s p (hp.subset hp')
theorem Of.some {F : Ns} {L : List (List UInt8)} (h : Of F L) {q : Path} (hq : q ≠ []) (hf : F q ≠ none) : isBr F q = true ∨ isLeaf F q = true := by
  obtain ⟨s, hs, r, hr⟩ := h.live q hq hf
  cases r with
  | nil => exact .inr ((h.leaf q).2 ⟨s, hs, by rw [← hr, List.append_nil]⟩)
  | cons a r => exact .inl (isBr_iff.2 ⟨a, h.there hs ⟨r, by rw [← hr]; simp⟩⟩)
/-- What is found is among what the document finds. -/
theorem hits_in {F : Ns} {L T : List (List UInt8)} (h : Of F L) {qs : List Path} (hq : ∀ q ∈ qs, Found F T q) : ∀ y ∈ hitsAll (isBr F) (isLeaf F) qs, y ∈ findD (T.map Nm.pt) L := by
  intro y hy0
  obtain ⟨q, hqq, hy, hk⟩ := (mem_hitsAll _ _ _ _).1 hy0
  rw [mem_findD]
  obtain ⟨hf, hne, t, ht, hm⟩ := hq q hqq
  have hlen := mtch_len hm
  refine ⟨Nm.pt t, List.mem_map.2 ⟨t, ht, rfl⟩, ?_⟩
  rcases hk with ⟨h1, h2⟩ | ⟨h1, h2⟩
  · obtain ⟨k, hk⟩ := isBr_iff.1 h2
    obtain ⟨s, hs, hp⟩ := h.live _ (by simp) hk
    obtain ⟨r, hr⟩ := hp
    refine ⟨s, hs, ?_⟩
    have e1 : (Nm.pt s).take (Nm.pt t).length = q := by rw [← hr, hlen, List.append_assoc]; exact List.take_left
    have e2 : (Nm.pt s).length = q.length + 1 + r.length := by rw [← hr]; simp; omega
    unfold hit
    rw [e1, if_pos ⟨by omega, hm⟩, decide_eq_false (by omega)]
    obtain ⟨n, b⟩ := y
    simp only at hy h1
    rw [hy, h1]
  · obtain ⟨s, hs, hp⟩ := (h.leaf q).1 h2
    refine ⟨s, hs, ?_⟩
    have e1 : (Nm.pt s).take (Nm.pt t).length = q := by rw [hp, hlen, List.take_length]
    unfold hit
    rw [e1, if_pos ⟨by rw [hp]; omega, hm⟩, decide_eq_true (by rw [hp]; omega)]
    obtain ⟨n, b⟩ := y
    simp only at hy h1
    rw [hy, h1]
theorem beh_root {q : Path} : Beh [] q ↔ q ≠ [] := ⟨fun h e => h.2 e, fun h => ⟨List.nil_prefix, fun e => h e⟩⟩
theorem goal_found {F G : Ns} {T : List (List UInt8)} (hG : Of G T) {q : Path} (hq : q ≠ []) : GoalP F G q ↔ Found F T q := by
  unfold GoalP Found
  rw [At.found hG]
  exact ⟨fun ⟨h1, h2⟩ => ⟨h1, hq, h2⟩, fun ⟨h1, _, h2⟩ => ⟨h1, h2⟩⟩
/-- The answer. -/
theorem found_res {F G : Ns} {L T : List (List UInt8)} (hF : Of F L) (hG : Of G T) {L2 : List Fd} (hfin : Fin_ F G [] 0 L2) {qs : List Path} (hp : qs.Perm (L2.map (·.q))) (hs : qs.Pairwise (fun a b => ltP a b = true)) :
    (512 < (hitsAll (isBr F) (isLeaf F) qs).length ∧ 512 < (findD (T.map Nm.pt) L).length) ∨ hitsAll (isBr F) (isLeaf F) qs = findD (T.map Nm.pt) L := by
  have hin : ∀ q ∈ qs, Found F T q := by
    intro q hq
    obtain ⟨f, hf, rfl⟩ := List.mem_map.1 (hp.subset hq)
    exact (goal_found hG (beh_root.1 (hfin.beh f hf))).1 (hfin.hits.at_ f hf).2
  have hb : ∀ q ∈ qs, Nm.pt (Nm.jn q) = q := fun q hq => hF.back (hin q hq).2.1 (hin q hq).1
  rcases hfin.all with h | h
  · left
    have h1 := hitsAll_len (isBr F) (isLeaf F) qs fun q hq => hF.some (hin q hq).2.1 (hin q hq).1
    have h2 : qs.length = L2.length := by rw [hp.length_eq, List.length_map]
    have h3 : (hitsAll (isBr F) (isLeaf F) qs).length ≤ (findD (T.map Nm.pt) L).length := len_le_of_mem (nodup_of RH.irr (hitsAll_sorted _ _ qs hb hs)) (hits_in hF hin)
    omega
  · right
    refine hits_are hF hs (fun q => ⟨hin q, fun hq => ?_⟩) hb
    exact hp.symm.subset (h q ((goal_found hG hq.2.1).2 hq) (beh_root.2 hq.2.1))
end Tr
end Go.Proofs.YtfmbbhcjnidcbaaGreatDoor
