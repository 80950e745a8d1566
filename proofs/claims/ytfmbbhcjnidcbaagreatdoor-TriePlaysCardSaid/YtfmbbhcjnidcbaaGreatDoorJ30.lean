/-
  GlGrp: CONTRACTS: chapter 9: the program's readGroup; both readers for texts of every length.
-/
import Derived.Test.YtfmbbhcjnidcbaaGreatDoorJ29

namespace Go.Proofs.YtfmbbhcjnidcbaaGreatDoor
open Go.RowKit
open Me

namespace Gl
/-- A group under way: the result's box, its own box, its rows. -/
structure GSv (w0 : World) (w : World) (v : Value) (rows : List Ro) : Prop where
  below : Below w0.heap.size w0 w
  res : RowAt w w0.heap.size 130 #[.string ⟨#[]⟩, .slice none 0 0, .int .i64 0]
  box : RowAt w (w0.heap.size + 1) 130 #[.string ⟨#[]⟩, v, .int .i64 (lim (rows.map Ro.L).flatten.length)]
  own : w.ownsRow (w0.heap.size + 2) 101 2 v rows.length (cellsR rows)
  all : ∃ n, ∀ r ∈ rows, RowM w (Abv (w0.heap.size + 2) v) n r
theorem GSv.on {w0 w w' : World} {v : Value} {rows : List Ro} (h : GSv w0 w v rows) (hb : Below w.heap.size w w') : GSv w0 w' v rows := by
  obtain ⟨h1, h2, h3, h4, n, h5⟩ := h
  exact ⟨h1.trans (hb.mono h1.size), h2.below hb h2.lt, h3.below hb h3.lt, owns_keep h4 fun g hg => hb.block g (World.ownsRow.lt h4 g hg).2, n, fun p hp => (h5 p hp).more (fun A xs => abv_keep hb) (Nat.le_refl _)⟩
theorem GSv.start (w0 : World) : GSv w0 ((w0.alloc (.cells #[.string ⟨#[]⟩, .slice none 0 0, .int .i64 0] 130)).alloc (.cells #[.string ⟨#[]⟩, .slice none 0 0, .int .i64 0] 130)) (.slice none 0 0) [] := by
  refine ⟨((Below.refl _ _).alloc (Nat.le_refl _) _).alloc (by simp) _, (RowAt.new w0 _ _).alloc _, ?_, ⟨rfl, .inl ⟨rfl, rfl⟩⟩, 0, fun p hp => by cases hp⟩
  have := RowAt.new (w0.alloc (.cells #[.string ⟨#[]⟩, .slice none 0 0, .int .i64 0] 130)) #[.string ⟨#[]⟩, .slice none 0 0, .int .i64 0] 130
  have e : lim (([] : List Ro).map Ro.L).flatten.length = 0 := rfl
  rw [e]
  simpa using this
theorem row_boxed {w0 w2 w4 : World} {v' : Value} {rows : List Ro} (h : GSv w0 w2 v' rows) (u0 u1 : Value) {r : Ro} {d : Nat} (hp : RowM w4 (fun i => w2.heap.size + 1 ≤ i) d r) :
    RowM ((w4.setCell ⟨w2.heap.size, 0, none⟩ u0).setCell ⟨w2.heap.size, 1, none⟩ u1) (Abv (w0.heap.size + 2) v') d r := by
  have hrl := h.box.lt
  refine hp.more (fun A xs hr => ?_) (Nat.le_refl _)
  refine (hr.kp (O := fun i => i = w2.heap.size) (((Kp.refl (fun i => i = w2.heap.size) w4).setCell ⟨w2.heap.size, 0, none⟩ (.inr rfl) _).setCell ⟨w2.heap.size, 1, none⟩ (.inr rfl) _) ?_).mono fun i _ hi => ?_
  · intro i _ h5 h6
    have h5 : w2.heap.size + 1 ≤ i := h5
    have h6 : i = w2.heap.size := h6
    omega
  · have hi : w2.heap.size + 1 ≤ i := hi
    exact ⟨by omega, own_lt h.own (by omega)⟩
/-- One row more. -/
theorem GSv.add {w0 Y w2 : World} {o : Obj} {v v2 : Value} {rows : List Ro} (h : GSv w0 Y v rows) {r : Ro} {d : Nat} (hr : RowM Y (Abv (w0.heap.size + 2) v) d r)
    (hown : w2.ownsRow (w0.heap.size + 2) 101 2 v2 (rows.length + 1) (cellsR rows ++ [r.ps, .int .i64 r.k])) (hg : (Y.alloc o).grownBy w2 v.ownBlock) (hat : v2.ownBlock = v.ownBlock ∨ v2.ownBlock = some (Y.alloc o).heap.size) :
    GSv w0 ((w2.setCell ⟨w0.heap.size + 1, 1, none⟩ v2).setCell ⟨w0.heap.size + 1, 2, none⟩ (.int .i64 (lim (lim (rows.map Ro.L).flatten.length + r.k)))) v2 (rows ++ [r]) := by
  obtain ⟨h1, h2, h3, h4, n, h5⟩ := h
  have hrl := h3.lt
  have hne : v.ownBlock ≠ some (w0.heap.size + 1) := fun e => by have := (World.ownsRow.lt h4 _ e).1; omega
  have hne0 : v.ownBlock ≠ some w0.heap.size := fun e => by have := (World.ownsRow.lt h4 _ e).1; omega
  have ha : Below Y.heap.size Y (Y.alloc o) := (Below.refl _ _).alloc (Nat.le_refl _) _
  have hsz : (Y.alloc o).heap.size = Y.heap.size + 1 := by simp
  have hne2 : v2.ownBlock ≠ some (w0.heap.size + 1) := fun e => by
    rcases hat with e2 | e2
    · exact hne (by rw [← e2]; exact e)
    · rw [e] at e2; have := Option.some.inj e2; omega
  have hK : Kp (fun b => b = w0.heap.size + 1 ∨ v.ownBlock = some b) Y ((w2.setCell ⟨w0.heap.size + 1, 1, none⟩ v2).setCell ⟨w0.heap.size + 1, 2, none⟩ (.int .i64 (lim (lim (rows.map Ro.L).flatten.length + r.k)))) :=
    (((Kp.of_below ha).grown hg fun g hg' => .inr (.inr hg')).setCell ⟨w0.heap.size + 1, 1, none⟩ (.inr (.inl rfl)) _).setCell ⟨w0.heap.size + 1, 2, none⟩ (.inr (.inl rfl)) _
  have hkeep : ∀ A xs, Rd Y (Abv (w0.heap.size + 2) v) A xs → Rd ((w2.setCell ⟨w0.heap.size + 1, 1, none⟩ v2).setCell ⟨w0.heap.size + 1, 2, none⟩ (.int .i64 (lim (lim (rows.map Ro.L).flatten.length + r.k)))) (Abv (w0.heap.size + 2) v2) A xs := by
    intro A xs hr
    have h1 : Rd Y (fun i => Abv (w0.heap.size + 2) v i ∧ Abv (w0.heap.size + 2) v2 i) A xs := hr.mono fun i hi h => ⟨h, h.1, by
      rcases hat with e | e
      · rw [e]; exact h.2
      · rw [e]; intro e2; have := Option.some.inj e2; omega⟩
    refine (h1.kp hK ?_).mono fun i _ h => h.2
    rintro i hi ⟨⟨h5, h6⟩, _⟩ (rfl | h7)
    · omega
    · exact h6 h7
  have hb2 : RowAt w2 (w0.heap.size + 1) 130 #[.string ⟨#[]⟩, v, .int .i64 (lim (rows.map Ro.L).flatten.length)] :=
    (hg.block _ (by rw [hsz]; omega) (fun e => hne e.symm)).trans ((ha.block _ hrl).trans h3)
  refine ⟨h1.trans (hK.below h1.size ?_), ?_, ?_, ?_, max n d, ?_⟩
  · rintro i hi (rfl | h7)
    · omega
    · have := (World.ownsRow.lt h4 i h7).1; omega
  · refine (hK.block _ h2.lt ?_).trans h2
    rintro (h7 | h7)
    · omega
    · exact hne0 h7
  · have := (hb2.set_ 1 v2).set_ 2 (.int .i64 ((lim (lim (rows.map Ro.L).flatten.length + r.k) : Nat) : Int))
    rw [hr.lim.1, lim_add] at this
    rw [hr.lim.1, lim_add, List.map_append, List.flatten_append, List.length_append]
    have e : ([r].map Ro.L).flatten.length = r.L.length := by simp
    rw [e]
    exact this
  · rw [List.length_append, List.length_singleton, cellsR_append]
    have hA : (w2.setCell ⟨w0.heap.size + 1, 1, none⟩ v2).ownsRow (w0.heap.size + 2) 101 2 v2 (rows.length + 1) (cellsR rows ++ [r.ps, .int .i64 r.k]) :=
      owns_keep hown fun g hg' => Below.heap_setCell w2 ⟨w0.heap.size + 1, 1, none⟩ _ g (by rintro rfl; exact hne2 hg')
    exact owns_keep hA fun g hg' => Below.heap_setCell _ ⟨w0.heap.size + 1, 2, none⟩ _ g (by rintro rfl; exact hne2 hg')
  · intro q hq
    rcases List.mem_append.1 hq with hq | hq
    · exact (h5 q hq).more hkeep (Nat.le_max_left _ _)
    · obtain rfl : q = r := by simpa using hq
      exact hr.more hkeep (Nat.le_max_right _ _)
theorem GSv.box2 {w0 Y w2 : World} {o : Obj} {v : Value} {rows : List Ro} (h : GSv w0 Y v rows) (hg : (Y.alloc o).grownBy w2 v.ownBlock) : RowAt w2 (w0.heap.size + 1) 130 #[.string ⟨#[]⟩, v, .int .i64 (lim (rows.map Ro.L).flatten.length)] := by
  have hrl := h.box.lt
  have hne : v.ownBlock ≠ some (w0.heap.size + 1) := fun e => by have := (World.ownsRow.lt h.own _ e).1; omega
  exact (hg.block _ (by simp; omega) (fun e => hne e.symm)).trans ((Below.heap_alloc Y o _ hrl).trans h.box)
theorem boxed2 {Y w2 : World} {o : Obj} {v : Value} {b : Nat} {t : TypeId} {cs : Array Value} (h : RowAt Y b t cs) (hne : v.ownBlock ≠ some b) (hg : (Y.alloc o).grownBy w2 v.ownBlock) : RowAt w2 b t cs :=
  (hg.block _ (by have := h.lt; simp; omega) (fun e => hne e.symm)).trans ((Below.heap_alloc Y o _ h.lt).trans h)
theorem limited_sum (a b : Nat) (ha : a ≤ 513) (hb : b ≤ 513) : IntKind.i64.wrap ((a : Int) + (b : Int)) = (a : Int) + (b : Int) := IntWalk.i64_in _ (by omega)
/-- The next text of a group. -/
theorem next_row {g' : List UInt8} {M' : List (List UInt8)} (h : Gr true g' M') (s : List UInt8) : ∃ (t : List UInt8) (L : List (List UInt8)) (tl : List UInt8), g' ++ 125 :: s = t ++ tl ∧ Gr false t L ∧ t.length ≤ g'.length ∧ tailOk tl ∧
    ((tl = 125 :: s ∧ L = M') ∨ ∃ g'' M'', tl = 44 :: (g'' ++ 125 :: s) ∧ Gr true g'' M'' ∧ L ++ M'' = M' ∧ g''.length + 1 ≤ g'.length) := by
  cases h with
  | one ht => exact ⟨g', M', 125 :: s, rfl, ht, Nat.le_refl _, .inr ⟨125, s, rfl, .inr rfl⟩, .inl ⟨rfl, rfl⟩⟩
  | @more t L g'' M'' ht hg => exact ⟨t, L, 44 :: (g'' ++ 125 :: s), by simp, ht, by simp, .inr ⟨44, _, rfl, .inl rfl⟩, .inr ⟨g'', M'', rfl, hg, rfl, by rw [List.length_append, List.length_cons]; omega⟩⟩
theorem GSv.finish {w0 w : World} {v : Value} {rows : List Ro} {M : List (List UInt8)} (h : GSv w0 w v rows) (hM : (rows.map Ro.L).flatten = M) (hl : rows.length ≤ 4294967296) (hpos : 0 < M.length) : ∃ (A : Option Addr) (m c k : Nat), w.cell? ⟨w0.heap.size + 1, 0, none⟩ = some (.string ⟨#[]⟩) ∧ w.cell? ⟨w0.heap.size + 1, 1, none⟩ = some (.slice A m c) ∧ w.cell? ⟨w0.heap.size + 1, 2, none⟩ = some (.int .i64 k) ∧
    w0.heap.size < w.heap.size ∧ w.frozen? ⟨w0.heap.size, 0, none⟩ = false ∧ w.frozen? ⟨w0.heap.size, 1, none⟩ = false ∧ w.frozen? ⟨w0.heap.size, 2, none⟩ = false ∧ w.cell? ⟨w0.heap.size, 0, none⟩ = some (.string ⟨#[]⟩) ∧ w.cell? ⟨w0.heap.size, 1, none⟩ = some (.slice none 0 0) ∧ w.cell? ⟨w0.heap.size, 2, none⟩ = some (.int .i64 0) ∧ Below w0.heap.size w0 w ∧
    Hid ((∃ d, PieceM (((w.setCell ⟨w0.heap.size, 0, none⟩ (.string ⟨#[]⟩)).setCell ⟨w0.heap.size, 1, none⟩ (.slice A m c)).setCell ⟨w0.heap.size, 2, none⟩ (.int .i64 k)) (fun i => w0.heap.size ≤ i) d ⟨[], .slice A m c, k, M⟩) ∧
      RowAt (((w.setCell ⟨w0.heap.size, 0, none⟩ (.string ⟨#[]⟩)).setCell ⟨w0.heap.size, 1, none⟩ (.slice A m c)).setCell ⟨w0.heap.size, 2, none⟩ (.int .i64 k)) w0.heap.size 130 #[.string ⟨#[]⟩, .slice A m c, .int .i64 k]) := by
  obtain ⟨h1, h2, h3, h4, n, h5⟩ := h
  obtain ⟨A, c, rfl⟩ := own_slice h4
  have hkeep : ∀ (u0 u1 u2 : Value) B xs, Rd w (fun i => w0.heap.size + 2 ≤ i) B xs → Rd (((w.setCell ⟨w0.heap.size, 0, none⟩ u0).setCell ⟨w0.heap.size, 1, none⟩ u1).setCell ⟨w0.heap.size, 2, none⟩ u2) (fun i => w0.heap.size ≤ i) B xs := by
    intro u0 u1 u2 B xs hr
    refine (hr.kp (O := fun i => i = w0.heap.size) ((((Kp.refl (fun i => i = w0.heap.size) w).setCell ⟨w0.heap.size, 0, none⟩ (.inr rfl) _).setCell ⟨w0.heap.size, 1, none⟩ (.inr rfl) _).setCell ⟨w0.heap.size, 2, none⟩ (.inr rfl) _) ?_).mono fun i _ h => ?_
    · intro i hi h5 h6
      have h5 : w0.heap.size + 2 ≤ i := h5
      have h6 : i = w0.heap.size := h6
      omega
    · have h : w0.heap.size + 2 ≤ i := h
      show w0.heap.size ≤ i
      omega
  have hset := ((h2.set_ 0 (.string ⟨#[]⟩)).set_ 1 (.slice A rows.length c)).set_ 2 (.int .i64 ((lim M.length : Nat) : Int))
  rw [hM] at h3
  refine ⟨A, rows.length, c, lim M.length, (h3.cell 0).trans rfl, (h3.cell 1).trans rfl, (h3.cell 2).trans rfl, h2.lt, h2.frozen 0, h2.frozen 1, h2.frozen 2, (h2.cell 0).trans rfl, (h2.cell 1).trans rfl, (h2.cell 2).trans rfl, h1,
    Lib.hid ⟨⟨n, rfl, hpos, .inr ⟨rows, A, c, rfl, rfl, hkeep _ _ _ _ _ ((Rd.own h4).mono fun i _ hi => (World.ownsRow.lt h4 i hi).1), hl, hM.symm, fun r hr => (h5 r hr).more (fun B xs hx => hkeep _ _ _ _ _ (hx.mono fun i _ h => h.1)) (Nat.le_refl _)⟩⟩, hset⟩⟩
end Gl

theorem limited_two (a b : Nat) (ha : a ≤ 513) (hb : b ≤ 513) (w : World) :
    Calls Tryz.prog 119 #[.int .i64 ((a : Int) + (b : Int))] w fun e w' => e = .returned (.int .i64 (Gl.lim (a + b))) ∧ w' = w := by
  have := limited_any (a + b) (by omega) w
  rw [Int.natCast_add] at this
  exact this

set_option maxRecDepth 100000 in
set_option maxHeartbeats 4000000 in
theorem readGroup_of (n : Nat) (hR : RowC n) : GroupC n := by
  intro g M s hgr hgn hlen w
  obtain ⟨i0, hi0, hz0, hz1, hz2⟩ := info_parts rowinfo
  have HI := Lib.hid hi0
  have HZ := Lib.hid (And.intro hz0 (And.intro hz1 hz2))
  clear hi0 hz0 hz1 hz2
  have HRc := Lib.hid hR
  clear hR
  have HB0 := Lib.hid (Gl.GSv.start w)
  have HGr := Lib.hid hgr
  have HPos := Lib.hid hgr.pos
  clear hgr
  have hgl : g.length ≤ 4294967270 := by simp only [List.length_append, List.length_cons] at hlen; omega
  go_enter Tryz.func87, Tryz.ntmps87
  go_wp2_with fail
  generalize (w.alloc (.cells #[.string ⟨#[]⟩, .slice none 0 0, .int .i64 0] 130)).alloc (.cells #[.string ⟨#[]⟩, .slice none 0 0, .int .i64 0] 130) = ws at *
  go_loopw [0] (fun x wr => ∃ (T : List UInt8) (v : Value) (rows : List Gl.Ro), x = .string ⟨T.toArray⟩ ∧ Hid (Gl.GSv w wr v rows) ∧ Hid (T.length ≤ (123 :: (g ++ 125 :: s)).length) ∧
      Hid ((∃ (b : UInt8) (g' : List UInt8) (M' : List (List UInt8)), (b = 123 ∨ b = 44) ∧ T = b :: (g' ++ 125 :: s) ∧ Gl.Gr true g' M' ∧ (rows.map Gl.Ro.L).flatten ++ M' = M ∧ g'.length + rows.length ≤ g.length) ∨ (T = 125 :: s ∧ (rows.map Gl.Ro.L).flatten = M ∧ rows.length ≤ g.length + 1))) (fun x _ => Gl.strLen x)
  case atStart => exact ⟨_, .slice none 0 0, [], rfl, HB0, Lib.hid (Nat.le_refl _), Lib.hid (.inl ⟨123, g, M, .inl rfl, rfl, HGr.out, rfl, Nat.le_refl _⟩)⟩
  case round =>
    obtain ⟨T, v, rows, rfl, HS, HTl, HC⟩ := hrel
    have hrl := HS.out.box.lt
    rcases HC.out with ⟨b, g', M', hb, rfl, hg', hM', hgl'⟩ | ⟨rfl, hM, hrl'⟩
    · -- one more text
      obtain ⟨t, L, tl, hsp, ht, htl, htk, hnx⟩ := Gl.next_row hg' s
      obtain ⟨T0, hT0⟩ : ∃ T0, t ++ tl = T0 := ⟨_, rfl⟩
      have htT : tl.length ≤ T0.length := by rw [← hT0, List.length_append]; omega
      rw [hT0] at hsp
      have hbl : (b :: (g' ++ 125 :: s)).length = T0.length + 1 := by rw [List.length_cons, hsp]
      have hx0 : (((⟨(b :: T0).toArray⟩ : ByteArray)[0]'(by show 0 < (b :: T0).toArray.size; simp)).toNat == 125) = false := by
        show (b.toNat == 125) = false
        rcases hb with rfl | rfl <;> rfl
      have hx1 : ((((⟨(b :: T0).toArray⟩ : ByteArray)[0]'(by show 0 < (b :: T0).toArray.size; simp)).toNat : Int) != 125) = true := by
        show (((b.toNat : Nat) : Int) != 125) = true
        rcases hb with rfl | rfl <;> rfl
      have hx2 : ((((⟨(b :: T0).toArray⟩ : ByteArray)[0]'(by show 0 < (b :: T0).toArray.size; simp)).toNat : Int) == 125) = false := by
        show (((b.toNat : Nat) : Int) == 125) = false
        rcases hb with rfl | rfl <;> rfl
      rw [hsp]
      have hTs : (⟨(b :: T0).toArray⟩ : ByteArray).size = T0.length + 1 := by show (b :: T0).toArray.size = _; simp
      have hcut : (⟨(b :: T0).toArray⟩ : ByteArray).extract 1 (T0.length + 1) = ⟨T0.toArray⟩ := by
        have := Gl.dropB (b :: T0) 1
        rw [List.length_cons] at this; exact this
      have hTl2 : T0.length + 1 ≤ (123 :: (g ++ 125 :: s)).length := by rw [← hbl]; exact HTl.out
      have HRow := Lib.hid (HRc.out t L tl ht (by omega) htk (by rw [hT0]; omega))
      rw [hT0] at HRow
      have HLn : Hid (tl.length < (b :: T0).length ∧ tl.length ≤ (123 :: (g ++ 125 :: s)).length) := Lib.hid ⟨by rw [List.length_cons]; omega, by omega⟩
      have HNx : Hid (∀ r : Gl.Ro, r.L = L → (∃ (b : UInt8) (g' : List UInt8) (M' : List (List UInt8)), (b = 123 ∨ b = 44) ∧ tl = b :: (g' ++ 125 :: s) ∧ Gl.Gr true g' M' ∧ ((rows ++ [r]).map Gl.Ro.L).flatten ++ M' = M ∧ g'.length + (rows ++ [r]).length ≤ g.length) ∨ (tl = 125 :: s ∧ ((rows ++ [r]).map Gl.Ro.L).flatten = M ∧ (rows ++ [r]).length ≤ g.length + 1)) := Lib.hid fun r hrL => by
        have e : ((rows ++ [r]).map Gl.Ro.L).flatten = (rows.map Gl.Ro.L).flatten ++ L := by
          have e1 : ([r].map Gl.Ro.L).flatten = L := by rw [← hrL]; exact List.append_nil _
          rw [List.map_append, List.flatten_append, e1]
        rw [e, List.length_append, List.length_singleton]
        rcases hnx with ⟨h1, h2⟩ | ⟨g'', M'', h1, h2, h3, h4⟩
        · right; refine ⟨h1, by rw [h2]; exact hM', by omega⟩
        · left; refine ⟨44, g'', M'', .inr rfl, h1, h2, by rw [List.append_assoc, h3]; exact hM', by omega⟩
      have hrn : rows.length ≤ 4294967270 := by omega
      obtain ⟨Av, cv, rfl⟩ := Gl.own_slice HS.out.own
      obtain ⟨k0, hk0⟩ : ∃ k0, Gl.lim (rows.map Gl.Ro.L).flatten.length = k0 := ⟨_, rfl⟩
      have hk0l : k0 ≤ 513 := hk0 ▸ Gl.lim_le _
      have HK0 := Lib.hid hk0
      clear hk0
      have hws := HS.out.below.size
      have htl9 : (T0.length : Int) ≤ 4294967270 := by omega
      clear hT0 htT hsp hbl hb hg' hM' hgl' ht htl htk hnx HC hTl2 HTl
      go_wp2_with first
        | (go_at_call 62; go_must (refine (HRow.out _).mono ?_; rintro e w4 ⟨A, m, c, k, rfl, ⟨d, hrd⟩, hb4⟩; have hRB := (RowAt.new wr #[.slice none 0 0, .int .i64 0] 101).below hb4 (by simp); have y0 := (hRB.cell 0).trans (show #[Value.slice none 0 0, .int .i64 0][0]? = some (.slice none 0 0) from rfl); have y1 := (hRB.cell 1).trans (show #[Value.slice none 0 0, .int .i64 0][1]? = some (.int .i64 0) from rfl); have f0 := hRB.frozen 0; have f1 := hRB.frozen 1; have yl := hRB.lt; have hb24 : Below wr.heap.size wr w4 := ((Below.refl wr.heap.size wr).alloc (Nat.le_refl _) _).trans (hb4.mono (by simp)); have hbn := (hb24.setCell (p := ⟨wr.heap.size, 0, none⟩) (Nat.le_refl _) (.slice A m c)).setCell (p := ⟨wr.heap.size, 1, none⟩) (Nat.le_refl _) (.int .i64 k); have hRS2 := Lib.hid (HS.out.on hbn); have hRM2 := Lib.hid (Gl.row_boxed HS.out (.slice A m c) (.int .i64 k) (by simpa using hrd)); have z1 : ((w4.setCell ⟨wr.heap.size, 0, none⟩ (.slice A m c)).setCell ⟨wr.heap.size, 1, none⟩ (.int .i64 k)).cell? ⟨w.heap.size + 1, 1, none⟩ = some (.slice Av rows.length cv) := (hRS2.out.box.cell 1).trans rfl; have hyl2 : w.heap.size + 1 < w4.heap.size := Nat.lt_of_lt_of_le hrl hb24.size; have hkl : k ≤ 513 := (by have := hrd.lim.1; rw [show k = _ from this]; exact Gl.lim_le _); have hY := Lib.hid ((hRB.set_ 0 (.slice A m c)).set_ 1 (.int .i64 k)); have HRM := Lib.hid hrd; clear hRB hb4 hb24 hbn hrd))
        | (at_builtin; go_must (refine wpList_app _ rfl (.tmp 16) (.tmp 18) 128 rfl (w.heap.size + 2) 101 i0 _ 2 32 Tryz.underlying128 HI.out HZ.out.1 HZ.out.2.1 HZ.out.2.2 rfl (by decide) (.slice Av rows.length cv) rows.length (Gl.cellsR rows) rfl (hRS2.out.own.alloc _) (fun b => b = w4.heap.size) (some ⟨w4.heap.size, 0, none⟩) 1 1 [.slice A m c, .int .i64 k] rfl rfl (Rd.fresh _ _ _ _ (by simp)) (by intro u hu; simp at hu; rcases hu with rfl | rfl <;> rfl) (by unfold maxLen; omega) (by omega) (by simp; omega) ?_; intro v2 w2 hown2 hg2 hat2 hnil2; obtain ⟨g2, cap2, rfl⟩ := Gl.own_form hown2 (by omega); have hb2 := hRS2.out.box2 hg2; have hx2' := Gl.boxed2 (v := .slice Av rows.length cv) hY.out (Gl.own_lt HS.out.own (Nat.le_refl _)) hg2; have d1 : w2.cell? ⟨w.heap.size + 1, 1, none⟩ = some (.slice Av rows.length cv) := (hb2.cell 1).trans rfl; have d2 : w2.cell? ⟨w.heap.size + 1, 2, none⟩ = some (.int .i64 k0) := (by rw [← HK0.out]; exact (hb2.cell 2).trans rfl); have df1 := hb2.frozen 1; have df2 := hb2.frozen 2; have dl := hb2.lt; have xk : w2.cell? ⟨wr.heap.size, 1, none⟩ = some (.int .i64 k) := (hx2'.cell 1).trans rfl; have xl := hx2'.lt; have hne3 : wr.heap.size ≠ w.heap.size + 1 := Nat.ne_of_gt hrl; have hsum := Gl.limited_sum k0 k hk0l hkl; have hsum2 : wrap64 ((k0 : Int) + (k : Int)) = (k0 : Int) + (k : Int) := (by unfold wrap64; omega); have HLm := Lib.hid (limited_two k0 k hk0l hkl); have HNew := Lib.hid (hRS2.out.add (r := ⟨.slice A m c, k, L⟩) hRM2.out hown2 hg2 hat2); rw [HK0.out] at HNew; clear hb2 hx2' hown2 hg2 hat2 hnil2))
        | (go_at_call 119; go_must (refine (HLm.out _).mono ?_; rintro e w6 ⟨rfl, hw6⟩; rw [hw6]))
      go_roundw
      case rel => exact ⟨tl, _, rows ++ [⟨.slice A m c, k, L⟩], rfl, HNew, Lib.hid HLn.out.2, Lib.hid (HNx.out _ rfl)⟩
      case measure => rw [Gl.strLen_mk, Gl.strLen_mk]; exact HLn.out.1
    · have hx0 : (((⟨(125 :: s).toArray⟩ : ByteArray)[0]'(by show 0 < (125 :: s : List UInt8).toArray.size; simp)).toNat == 125) = true := rfl
      have hx1 : ((((⟨(125 :: s).toArray⟩ : ByteArray)[0]'(by show 0 < (125 :: s : List UInt8).toArray.size; simp)).toNat : Int) != 125) = false := rfl
      have hx2 : ((((⟨(125 :: s).toArray⟩ : ByteArray)[0]'(by show 0 < (125 :: s : List UInt8).toArray.size; simp)).toNat : Int) == 125) = true := rfl
      have hTs : (⟨(125 :: s).toArray⟩ : ByteArray).size = s.length + 1 := by show (125 :: s : List UInt8).toArray.size = _; simp
      have hcut : (⟨(125 :: s).toArray⟩ : ByteArray).extract 1 (s.length + 1) = ⟨s.toArray⟩ := by
        have := Gl.dropB (125 :: s) 1
        rw [List.length_cons] at this; exact this
      have hsl : (s.length : Int) ≤ 4294967270 := by simp only [List.length_append, List.length_cons] at hlen; omega
      obtain ⟨A, m, c, k, x0, x1, x2, xl, xf0, xf1, xf2, xc0, xc1, xc2, xb, XR⟩ := HS.out.finish hM (by omega) HPos.out
      clear hM hrl' HC HTl
      go_wp2_with fail
      go_region
      all_goals
        go_wp2_with fail
        obtain ⟨HPM, HRW⟩ := XR.out
        have HBf := ((xb.setCell (p := ⟨w.heap.size, 0, none⟩) (Nat.le_refl _) (.string ⟨#[]⟩)).setCell (p := ⟨w.heap.size, 1, none⟩) (Nat.le_refl _) (.slice A m c)).setCell (p := ⟨w.heap.size, 2, none⟩) (Nat.le_refl _) (.int .i64 k)
        obtain ⟨d, hpm⟩ := HPM
        have HPM2 := Lib.hid (hpm.more (fun B xs hx => hx.below ((Below.refl _ _).drew)) (Nat.le_refl _))
        have HBf2 := Lib.hid HBf.drew
        have HRW2 := HRW.drew
        clear hpm HRW HBf XR xb x0 x1 x2 xf0 xf1 xf2 xc0 xc1 xc2
        generalize (((wr.setCell ⟨w.heap.size, 0, none⟩ (.string ⟨#[]⟩)).setCell ⟨w.heap.size, 1, none⟩ (.slice A m c)).setCell ⟨w.heap.size, 2, none⟩ (.int .i64 k)).drew = wz at *
        have r0 := (HRW2.cell 0).trans (show #[Value.string ⟨#[]⟩, .slice A m c, .int .i64 k][0]? = some (.string ⟨#[]⟩) from rfl)
        have r1 := (HRW2.cell 1).trans (show #[Value.string ⟨#[]⟩, .slice A m c, .int .i64 k][1]? = some (.slice A m c) from rfl)
        have r2 := (HRW2.cell 2).trans (show #[Value.string ⟨#[]⟩, .slice A m c, .int .i64 k][2]? = some (.int .i64 k) from rfl)
        exact bodyPost_ret (v := .tuple #[.agg #[.string ⟨#[]⟩, .slice A m c, .int .i64 k], .string ⟨s.toArray⟩]) (by simp [results, Tryz.results87, go_sem, *]) rfl ⟨A, m, c, k, rfl, ⟨d, HPM2.out⟩, HBf2.out⟩

theorem readers (n : Nat) : RowC n ∧ GroupC n := by
  induction n using Nat.strongRecOn with
  | _ n ih =>
    have h1 : RowC n := readRow_of n fun m hm => (ih m hm).2
    exact ⟨h1, readGroup_of n h1⟩
theorem readRow_any (t : List UInt8) (L : List (List UInt8)) (h : Gl.Gr false t L) (hl : t.length ≤ 4294967270) (w : World) :
    Calls Tryz.prog 62 #[.string ⟨t.toArray⟩] w fun e w' => ∃ (A : Option Addr) (m c k : Nat), e = .returned (.tuple #[.agg #[.slice A m c, .int .i64 k], .string ⟨#[]⟩]) ∧ (∃ d, Gl.RowM w' (fun i => w.heap.size ≤ i) d ⟨.slice A m c, k, L⟩) ∧ Below w.heap.size w w' := by
  have := (readers t.length).1 t L [] h (Nat.le_refl _) (.inl rfl) (by rw [List.append_nil]; exact hl) w
  rw [List.append_nil] at this
  exact this
end Go.Proofs.YtfmbbhcjnidcbaaGreatDoor
