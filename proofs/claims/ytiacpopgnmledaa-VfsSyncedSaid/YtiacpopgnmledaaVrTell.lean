/-
  CONTRACTS: the document's own files as an object: sizes, what is pending, all synced; one that is new.
-/
import Derived.Test.YtiacpopgnmledaaVrFs
import Derived.Deep.RegionWith
import Derived.Deep.RegionLaw
namespace Go.Proofs.Ytiacpopgnmledaa
open Go.RowKit
open Me

namespace Vf
/-- The file at a place. -/
theorem Fs.nth {w : World} {G : Nat → Prop} {v : Value} {l : List Fl} (h : Fs w G v l) (k : Nat) (hk : k < l.length) :
    ∃ rb ro c A2 c2, v = .slice (some ⟨rb, ro, none⟩) l.length c ∧ l.length ≤ c ∧ c ≤ maxLen ∧ w.cell? ⟨rb, ro + k * 2, none⟩ = some (.string ⟨(l[k].name).toArray⟩) ∧ w.cell? ⟨rb, ro + k * 2 + 1, none⟩ = some (.slice A2 (l[k].b).length c2) ∧
      Bs w G (.slice A2 (l[k].b).length c2) l[k].b ∧ rb < w.heap.size ∧ G rb := by
  obtain ⟨A, c, xs, rfl, hc, hcm, hrd, hels⟩ := h
  obtain ⟨cs, hcs, hx⟩ := hels.get FlC.two k hk
  have hxl := hels.length FlC.two
  obtain ⟨rb, ro, rfl, hlt, hg, hcell⟩ := hrd.lit (k * 2) (by omega)
  obtain ⟨bv, rfl, hbs⟩ := hcs
  have hb := hbs
  obtain ⟨A2, c2, rfl, _, _, _⟩ := hbs
  refine ⟨rb, ro, c, A2, c2, rfl, hc, hcm, hcell _ _ (hx 0 (by omega)), ?_, hb, hlt, hg⟩
  have := hcell _ _ (hx 1 (by omega))
  rwa [← Nat.add_assoc] at this
theorem ix_at {l : List Fl} {n : List UInt8} (h : ¬ ix l n < 0) : ∃ k : Nat, ix l n = (k : Int) ∧ k < l.length := by
  obtain ⟨h1, h2⟩ := ix_bd l n
  exact ⟨(ix l n).toNat, by omega, by omega⟩
def size (l : List Fl) (n : List UInt8) : Int × Int := if is n = false then (0, 1) else if ix l n < 0 then (0, 5) else (((l.getD (ix l n).toNat ⟨[], []⟩).b.length : Int), 0)
end Vf

theorem ret_two {a b c d : Int} (h : (a, b) = (c, d)) : Ending.returned (.tuple #[.int .i64 a, .int .i64 b]) = .returned (.tuple #[.int .i64 c, .int .i64 d]) := by
  injection h with h1 h2
  rw [h1, h2]


set_option maxHeartbeats 800000 in
theorem size_any {w : World} {G : Nat → Prop} {fs : Nat} {lr : Option Nat} {S : Vf.Sv} {nv wv lv : Value} {ys : List Value} (h : Vf.At w G fs lr S nv wv lv ys) (n : List UInt8) (hl : S.now.length ≤ 1048576) :
    Calls Try.prog 29 #[.pointer (some ⟨fs, 0, none⟩), .string ⟨n.toArray⟩] w fun e w' => e = .returned (.tuple #[.int .i64 (Vf.size S.now n).1, .int .i64 (Vf.size S.now n).2]) ∧ w = w' := by
  obtain ⟨c0, c1, c2, c3, hf⟩ := h.cells
  have HFD := Lib.hid (find_any S.now n nv G w h.now hl)
  have HIS := Lib.hid (is_any n w)
  have HS : Hid (Vf.size S.now n = if Vf.is n = false then (0, 1) else if Vf.ix S.now n < 0 then (0, 5) else (((S.now.getD (Vf.ix S.now n).toNat ⟨[], []⟩).b.length : Int), 0)) := Lib.hid rfl
  cases hi : Vf.is n
  · rw [hi] at HIS HS
    have HR : Hid (Vf.size S.now n = (0, 1)) := Lib.hid (by rw [HS.out]; rfl)
    obtain ⟨i1, i2⟩ := Vf.ix_bd S.now n
    clear HS hf h
    generalize Vf.size S.now n = r at *
    generalize Vf.ix S.now n = i at *
    go_enter Try.func29, Try.ntmps29
    go_wp2_with (first | (go_at_call 50; ((with_reducible refine (HFD.out).mono ?_); rintro e w' ⟨rfl, rfl⟩)) | (go_at_call 49; ((with_reducible refine (HIS.out).mono ?_); rintro e w' ⟨rfl, rfl⟩)))
    ((try simp only [Exit.inBlock, Exit.then]); refine bodyPost_ret (results_tmp2 rfl _ _ _) rfl ?_)
    exact ⟨ret_two HR.out.symm, rfl⟩
  · rw [hi] at HIS HS
    by_cases hx : Vf.ix S.now n < 0
    · have HR : Hid (Vf.size S.now n = (0, 5)) := Lib.hid (by rw [HS.out]; simp [hx])
      obtain ⟨i1, i2⟩ := Vf.ix_bd S.now n
      clear HS hf h
      generalize Vf.size S.now n = r at *
      generalize Vf.ix S.now n = i at *
      go_enter Try.func29, Try.ntmps29
      go_wp2_with (first | (go_at_call 50; ((with_reducible refine (HFD.out).mono ?_); rintro e w' ⟨rfl, rfl⟩)) | (go_at_call 49; ((with_reducible refine (HIS.out).mono ?_); rintro e w' ⟨rfl, rfl⟩)))
      ((try simp only [Exit.inBlock, Exit.then]); refine bodyPost_ret (results_tmp2 rfl _ _ _) rfl ?_)
      exact ⟨ret_two HR.out.symm, rfl⟩
    · obtain ⟨k, hk, hkl⟩ := Vf.ix_at hx
      have HR : Hid (Vf.size S.now n = (((S.now[k].b).length : Int), 0)) := Lib.hid (by rw [HS.out, hk]; simp [hkl])
      obtain ⟨rb, ro, c, A2, cc, rfl, hc, hcm, d0, d1, hbs, _, _⟩ := h.now.nth k hkl
      obtain ⟨A3, c3', he, hc2, hcm2, _⟩ := hbs
      injection he with he1 he2 he3
      subst he1 he3
      unfold maxLen at hcm hcm2
      rw [hk] at HFD
      clear HS hf h hx
      generalize Vf.size S.now n = r at *
      go_enter Try.func29, Try.ntmps29
      go_wp2_with (first | (go_at_call 50; ((with_reducible refine (HFD.out).mono ?_); rintro e w' ⟨rfl, rfl⟩)) | (go_at_call 49; ((with_reducible refine (HIS.out).mono ?_); rintro e w' ⟨rfl, rfl⟩)))
      ((try simp only [Exit.inBlock, Exit.then]); refine bodyPost_ret (results_tmp2 rfl _ _ _) rfl ?_)
      exact ⟨ret_two HR.out.symm, rfl⟩

theorem pending_any {w : World} {G : Nat → Prop} {fs : Nat} {lr : Option Nat} {S : Vf.Sv} {nv wv lv : Value} {ys : List Value} (h : Vf.At w G fs lr S nv wv lv ys) (hl : S.l.length ≤ 1048576) :
    Calls Try.prog 35 #[.pointer (some ⟨fs, 0, none⟩)] w fun e w' => e = .returned (.int .i64 (S.l.length : Int)) ∧ w = w' := by
  obtain ⟨c0, c1, c2, c3, hf⟩ := h.cells
  obtain ⟨A, c, rfl⟩ : ∃ A c, lv = .slice A S.l.length c := by
    rcases h.own.2 with ⟨e, e0⟩ | ⟨g, cap, cur, e, _⟩
    · exact ⟨none, 0, by rw [e, e0]⟩
    · exact ⟨_, cap, e⟩
  have hl' : (S.l.length : Int) ≤ 1048576 := by omega
  clear hf h
  go_enter Try.func35, Try.ntmps35
  go_wp2_with fail
  go_ret
  exact ⟨rfl, rfl⟩

theorem new_any (room : Int) (w : World) (hr : 0 ≤ room) (hr2 : room ≤ 1073741824) :
    Calls Try.prog 8 #[.int .i64 room] w fun e w' => e = .returned (.tuple #[.pointer (some ⟨w.heap.size, 0, none⟩), .int .i64 0]) ∧ Vf.At w' (fun _ => False) w.heap.size none ⟨room, [], [], []⟩ (.slice none 0 0) (.slice none 0 0) (.slice none 0 0) [] ∧ Below w.heap.size w w' := by
  go_enter Try.func8, Try.ntmps8
  go_wp2_with fail
  ((try simp only [Exit.inBlock, Exit.then]); refine bodyPost_ret (results_tmp2 rfl _ _ _) rfl ?_)
  refine ⟨rfl, ⟨heap_alloc_new w _, ⟨none, 0, [], rfl, Nat.le_refl _, Nat.zero_le _, Rd.none_ _ _ _, rfl⟩, ⟨none, 0, [], rfl, Nat.le_refl _, Nat.zero_le _, Rd.none_ _ _ _, rfl⟩, World.ownsRow_nil _ _ _ _, rfl, rfl, id, (fun g h => nomatch h), fun _ h => h.elim⟩, (Below.refl _ _).alloc (Nat.le_refl _) _⟩

theorem put_heap {w : World} {g i : Nat} {cs : Array Value} {t : TypeId} {fr : Nat × Nat} (h : w.heap[g]? = some (.cells cs t fr)) (u : Value) : (w.setCell ⟨g, i, none⟩ u).heap[g]? = some (.cells (cs.setIfInBounds i u) t fr) := by
  simp [World.setCell, Array.getElem?_modify, h]
theorem put_size (w : World) (p : Addr) (u : Value) : (w.setCell p u).heap.size = w.heap.size := by simp [World.setCell]
theorem sync_end {w : World} {G : Nat → Prop} {fs : Nat} {lr : Option Nat} {S : Vf.Sv} {nv wv lv : Value} {ys : List Value} (h : Vf.At w G fs lr S nv wv lv ys) :
    Vf.At ((w.setCell ⟨fs, 2, none⟩ nv).setCell ⟨fs, 3, none⟩ (.slice none 0 0)) G fs none { S with was := S.now, l := [] } nv nv (.slice none 0 0) [] := by
  have hs : ((w.setCell ⟨fs, 2, none⟩ nv).setCell ⟨fs, 3, none⟩ (.slice none 0 0)).heap.size = w.heap.size := by rw [put_size, put_size]
  have hk : ∀ b, b < w.heap.size → G b → ((w.setCell ⟨fs, 2, none⟩ nv).setCell ⟨fs, 3, none⟩ (.slice none 0 0)).heap[b]? = w.heap[b]? := fun b _ hg => by
    have hne : b ≠ fs := fun e => h.gfs (e ▸ hg)
    rw [Below.heap_setCell _ ⟨fs, 3, none⟩ _ b hne, Below.heap_setCell _ ⟨fs, 2, none⟩ _ b hne]
  refine ⟨?_, h.now.keep (by omega) hk, h.now.keep (by omega) hk, World.ownsRow_nil _ _ _ _, rfl, rfl, h.gfs, (fun g h => nomatch h), fun b hb => by rw [hs]; exact h.lt b hb⟩
  rw [put_heap (put_heap h.heap _)]
  rfl

theorem sync_any {w : World} {G : Nat → Prop} {fs : Nat} {lr : Option Nat} {S : Vf.Sv} {nv wv lv : Value} {ys : List Value} (h : Vf.At w G fs lr S nv wv lv ys) :
    Calls Try.prog 13 #[.pointer (some ⟨fs, 0, none⟩)] w fun e w' => e = .returned (.tuple #[]) ∧ Vf.At w' G fs none { S with was := S.now, l := [] } nv nv (.slice none 0 0) [] ∧ Kp (fun b => b = fs) w w' := by
  obtain ⟨c0, c1, c2, c3, hf⟩ := h.cells
  have H := Lib.hid h
  obtain ⟨A, c, xs, hnv, _⟩ := h.now
  subst hnv
  have hf1 := hf 1
  have hf2 := hf 2
  have hf3 := hf 3
  clear h hf
  go_enter Try.func13, Try.ntmps13
  go_wp2_with fail
  ((try simp only [Exit.inBlock, Exit.then]); first | (refine bodyPost_ret (results_none rfl _ _ _) rfl ?_) | (refine bodyPost_end (results_none rfl _ _ _) rfl ?_))
  refine ⟨rfl, sync_end H.out, ((Kp.refl (fun b => b = fs) w).setCell ⟨fs, 2, none⟩ (.inr rfl) _).setCell ⟨fs, 3, none⟩ (.inr rfl) _⟩

end Go.Proofs.Ytiacpopgnmledaa
