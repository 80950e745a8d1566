/-
  CONTRACTS: the program's files: List.
-/
import Derived.Test.YtiacpopgnmledaaVpGen
import Derived.Test.YtiacpopgnmledaaVrList
import Derived.Maps.RangeWalk
import Derived.Maps.AppendAt
import Derived.Sort.KeysCollected
import Derived.Sort.OwnSorted
import Derived.Sort.Walk0
import Derived.Laws.IdiomRangeMap
import Derived.OwnWalk
namespace Go.Proofs.Ytiacpopgnmledaa
open Go.RowKit
open Me Vf
namespace Vf

abbrev LeP (x y : List UInt8) : Prop := x ≤ y
theorem lt_iff (x y : List UInt8) : lt x y = decide (x < y) := Go.Proofs.bytesLess_eq x y
theorem lead_sorted : ∀ (l : List (List UInt8)) (n : List UInt8), l.Pairwise LeP → (∀ x ∈ l.take (lead l n), x ≤ n) ∧ ∀ x ∈ l.drop (lead l n), n ≤ x
  | [], n, _ => by simp [lead]
  | x :: r, n, h => by
    have hx := List.pairwise_cons.1 h
    unfold lead
    by_cases hl : lt x n = true
    · rw [if_pos hl]
      obtain ⟨h1, h2⟩ := lead_sorted r n hx.2
      refine ⟨fun y hy => ?_, fun y hy => h2 y (by simpa using hy)⟩
      simp only [List.take_succ_cons, List.mem_cons] at hy
      rcases hy with rfl | hy
      · rw [lt_iff] at hl
        exact List.le_of_lt (by simpa using hl)
      · exact h1 y hy
    · rw [if_neg hl]
      rw [lt_iff] at hl
      have hnx : n ≤ x := List.not_lt.1 (by simpa using hl)
      refine ⟨fun y hy => by simp at hy, fun y hy => ?_⟩
      simp only [List.drop_zero, List.mem_cons] at hy
      rcases hy with rfl | hy
      · exact hnx
      · exact List.le_trans hnx (hx.1 y hy)
theorem ins_perm (l : List (List UInt8)) (n : List UInt8) : (ins l n).Perm (l ++ [n]) := by
  unfold ins
  have h : (l.take (lead l n) ++ ([n] ++ l.drop (lead l n))).Perm (l.take (lead l n) ++ (l.drop (lead l n) ++ [n])) := List.Perm.append_left _ List.perm_append_comm
  have e : l.take (lead l n) ++ (l.drop (lead l n) ++ [n]) = l ++ [n] := by rw [← List.append_assoc, List.take_append_drop]
  rw [e] at h
  exact h
theorem ins_sorted (l : List (List UInt8)) (n : List UInt8) (h : l.Pairwise LeP) : (ins l n).Pairwise LeP := by
  obtain ⟨h1, h2⟩ := lead_sorted l n h
  have h0 := h
  rw [← List.take_append_drop (lead l n) l] at h0
  obtain ⟨ha, hb, hc⟩ := List.pairwise_append.1 h0
  unfold ins
  refine List.pairwise_append.2 ⟨ha, List.pairwise_append.2 ⟨List.pairwise_singleton _ _, hb, fun x hx y hy => ?_⟩, fun x hx y hy => ?_⟩
  · simp only [List.mem_singleton] at hx
    subst hx
    exact h2 y hy
  · rcases List.mem_append.1 hy with hy | hy
    · simp only [List.mem_singleton] at hy
      subst hy
      exact h1 x hx
    · exact hc x hx y hy
theorem names_from : ∀ (l : List Fl) (m : List (List UInt8)), m.Pairwise LeP → (l.foldl (fun m f => ins m f.name) m).Pairwise LeP ∧ (l.foldl (fun m f => ins m f.name) m).Perm (m ++ l.map (·.name))
  | [], m, h => by simpa using h
  | f :: r, m, h => by
    obtain ⟨h1, h2⟩ := names_from r (ins m f.name) (ins_sorted m f.name h)
    refine ⟨h1, h2.trans ?_⟩
    have := (ins_perm m f.name).append_right (r.map (·.name))
    simpa [List.append_assoc] using this
theorem names_merge (l : List Fl) {ss : List (List UInt8)} (h : ss.Perm (l.map (·.name))) : ss.mergeSort (fun x y => decide (x ≤ y)) = names l := by
  obtain ⟨h1, h2⟩ := names_from l [] List.Pairwise.nil
  have h2' : (names l).Perm (l.map (·.name)) := by
    have h3 := h2
    rw [List.nil_append] at h3
    exact h3
  have tr : ∀ a b c : List UInt8, Go.leB a b = true → Go.leB b c = true → Go.leB a c = true := fun a b c h1 h2 => by simp only [Go.leB, decide_eq_true_eq] at *; exact List.le_trans h1 h2
  have to : ∀ a b : List UInt8, (Go.leB a b || Go.leB b a) = true := fun a b => by simp only [Go.leB, Bool.or_eq_true, decide_eq_true_eq]; exact List.le_total a b
  refine List.Perm.eq_of_pairwise (le := fun a b => Go.leB a b = true) (fun a b _ _ h1 h2 => ?_) (List.pairwise_mergeSort tr to ss) (h1.imp (fun h => by simpa [Go.leB] using h)) (((List.mergeSort_perm ss Go.leB).trans h).trans h2'.symm)
  simp only [Go.leB, decide_eq_true_eq] at h1 h2
  exact List.le_antisymm h1 h2
theorem names_of (l : List Fl) (hu : Vp.Uniq l) {ss : List (List UInt8)} (hn : ss.Nodup) (hm : ∀ x, x ∈ ss ↔ (Vp.look l x).isSome = true) : ss.mergeSort (fun x y => decide (x ≤ y)) = names l := by
  refine names_merge l ((List.perm_ext_iff_of_nodup hn ?_).2 fun x => ?_)
  · exact List.pairwise_map.2 hu
  · rw [hm, List.mem_map]
    constructor
    · intro h
      obtain ⟨b, hb⟩ := Option.isSome_iff_exists.1 h
      obtain ⟨f, hf, he, _⟩ := Vp.look_mem hb
      exact ⟨f, hf, he⟩
    · rintro ⟨f, hf, rfl⟩
      cases hl : Vp.look l f.name with
      | some b => rfl
      | none => exact absurd rfl (Vp.look_none_mem hl f hf)
end Vf

theorem Vp.ptr_of {v : Value} {y : DataW Unit × List MemPlace} (h : Vp.ptrR v = some y) : ∃ c, v = Vp.ptr c := by
  unfold Vp.ptrR at h
  split at h
  · exact ⟨none, rfl⟩
  · rename_i b
    exact ⟨some b, rfl⟩
  · cases h

/-- What List leaves: a row of its own, the keys sorted. -/
def Vp.Listed (w : World) (has : List UInt8 → Bool) (e : Ending) (w' : World) : Prop :=
  ∃ (g cap : Nat) (ss : List (List UInt8)), e = .returned (.slice (some ⟨g, 0, none⟩) ss.length cap) ∧ ss.Nodup ∧ (∀ x, x ∈ ss ↔ has x = true) ∧
    w'.ownsRow w.heap.size 9 1 (.slice (some ⟨g, 0, none⟩) ss.length cap) ss.length ((ss.mergeSort (fun x y => decide (x ≤ y))).map encStr) ∧ Below w.heap.size w w'

theorem Vp.strinfo : (Try.prog.info? 9).map (fun i => (i.zero, i.size, i.bytes)) = some (some (.string ⟨#[]⟩), 1, 16) := by kernel_rfl

set_option maxRecDepth 100000 in
set_option maxHeartbeats 1000000 in
theorem plist_map {w : World} {fs b k : Nat} {lv : Value} {room used : Int} {D : DataW Unit} (hfs : w.heap[fs]? = some (Vp.fsC lv room used (.map (some b)))) (hown : w.ownsMap Try.prog 9 Vp.ptrR b k D) (hk : k ≤ 1048576)
    (hn : ∀ x, Maps.has D (.string x) = true → x.length ≤ 1048576) :
    Calls Try.prog 30 #[.pointer (some ⟨fs, 0, none⟩)] w (Vp.Listed w (fun x => Maps.has D (.string x))) := by
  obtain ⟨c0, c1, c2, c3, cf, fsl⟩ := Vp.fs_cells hfs
  obtain ⟨i0, hi0, hz0, hz1, hz2⟩ := info_parts Vp.strinfo
  have HI := Lib.hid hi0
  have HZ := Lib.hid (And.intro hz0 (And.intro hz1 hz2))
  have HM := Lib.hid hown
  have HN := Lib.hid hn
  have hbl := hown.lt
  have hsz := hown.size_le
  clear hi0 hz0 hz1 hz2 hown hn c0 c1 c2 cf hfs
  go_enter Try.func30, Try.ntmps30
  go_wp2_with (first
    | (at_len; refine wpList_len_own _ rfl _ 51 rfl 9 71 Try.underlying51 _ b k D rfl HM.out ?_)
    | (at_make; refine wpList_make_own _ rfl _ _ 68 rfl w.heap.size 9 i0 (.string ⟨#[]⟩) 1 Try.underlying68 HI.out HZ.out.1 HZ.out.2.1 _ _ _ (Maps.size D) rfl rfl rfl (by rw [HZ.out.2.2]; omega) (by unfold maxLen; omega) (Nat.le_refl _) ?_; intro w1 hrow1 hg1; have HR1 := Lib.hid hrow1; clear hrow1; have c3' := (hg1.cell_far ⟨fs, 3, none⟩ fsl (by simp)).trans c3)
    | (at_range; refine wpList_range_own _ rfl _ 51 rfl 9 71 Vp.keyS Try.underlying51 _ b k D rfl (HM.out.kept hg1 (by simp)) ?_; intro w0 hrg0 hg0 hs0)
    | go_in)
  go_frame
  go_loopw [3] (fun v wr => ∃ (left : Lit → Bool) (cnt : Nat) (ss : List (List UInt8)), wr.ranges Try.prog 9 Vp.ptrR b w1.heap.size k D left cnt ∧ ss.length + cnt ≤ Maps.size D ∧
      wr.ownsRow w.heap.size 9 1 v ss.length (ss.map encStr) ∧ v ≠ .slice none 0 0 ∧ Collected D left ss ∧ Below w.heap.size w wr)
    (fun _ wr => wr.rangeLeft b w1.heap.size)
  case atStart =>
    exact ⟨_, _, [], hrg0, by simp, HR1.out.kept hg0 (Or.inr (by simp [Value.ownBlock])), by simp, Collected.start D,
      ((Below.refl _ _).grown hg1 (Nat.le_refl _) (fun j hj => by cases hj)).grown hg0 hg1.size (fun j hj => by cases hj)⟩
  case round =>
    obtain ⟨left, cnt, ss, hrg, hcs, hrow, hnn, hC, hnx⟩ := hrel
    have HRG := Lib.hid hrg
    have HROW := Lib.hid hrow
    have HC := Lib.hid hC
    have hws := hnx.size
    have hg1s := hg1.size
    clear hrg hC hs0 c3' c3
    go_wp2_with (first
      | (at_next; refine wpList_next_ranges _ rfl _ rfl 9 Vp.keyS Vp.ptrR encStr Vp.ptr (fun key kl hk => by obtain ⟨x, hx, _⟩ := Maps.keyOf_str Try.underlying9 hk; exact ⟨x, hx⟩) (fun v y hv => Vp.ptr_of hv) b w1.heap.size k D left cnt rfl HRG.out ?_ ?_)
      | go_in)
    · intro hc0 hl0
      rcases hrow.2 with ⟨hnil, _⟩ | ⟨g, cap, cur, rfl, hbase, hb, h1, h2, h3, h4⟩
      · exact absurd hnil hnn
      have hH : Go.Sort.Holds encStr wr g 0 ss.toArray := holds_of_block hb (by simpa using h4)
      have hgl : g < wr.heap.size := (Array.getElem?_eq_some_iff.1 hb).1
      have HS := Lib.hid (Try.slices_Sort_string g 0 cap ss wr hH hgl (by omega))
      have HP := Lib.hid (And.intro hbase (And.intro hb (And.intro h1 (And.intro h2 h3))))
      have HL := Lib.hid hl0
      clear hH hb h1 h2 h3 h4 hrow hnn hl0 HROW
      go_wp2_with (go_at_call 54; (with_reducible refine HS.out.mono ?_); rintro e w' ⟨rfl, nn, os, rfl⟩)
      go_ret
      obtain ⟨hbase, hb, h1, h2, h3⟩ := HP.out
      exact ⟨g, cap, ss, rfl, HC.out.1, fun x => by rw [HC.out.2 x, HL.out]; simp, ownsRow_sorted (by simp) hbase hb h1 h2 h3, hnx.grown (grownBy_sorted _) hnx.size (fun j hj => by cases hj; exact hbase)⟩
    · intro x c kl yd yp w2 cnt2 hkey hlk hv hat hrg2 hlt hg2 hs2 hen
      obtain ⟨x', ex, rfl, _⟩ := Maps.keyOf_str Try.underlying9 hkey
      obtain rfl : x = x' := encStr_inj ex
      have HCL : Hid (∀ W : World, Calls Try.prog 42 #[.string ⟨x.toArray⟩] W fun e w' => e = .returned (.string ⟨x.toArray⟩) ∧ Below W.heap.size W w') := Lib.hid (fun W => strClone_any x W (HN.out x (Maps.has_true_of_atKey hat)))
      have HRW2 := Lib.hid (hrow.kept hg2 (Or.inr (row_ne_iter hrow HRG.out).symm))
      have HRG2 := Lib.hid hrg2
      have HAT := Lib.hid (And.intro hlk hat)
      have hw2 := hg2.size
      clear hs2 hkey hlk hv hat hrg2 ex hrow
      go_wp2_with (first
        | (go_at_call 42; (with_reducible refine (HCL.out _).mono ?_); rintro e w3 ⟨rfl, hb3⟩; have hg3 : w2.grownBy w3 none := ⟨hb3.os, hb3.tape, hb3.output, hb3.size, fun k hk _ => hb3.block k hk⟩; have hw3 := hb3.size; have HRW3 := Lib.hid (HRW2.out.kept hg3 (Classical.em _)))
        | (at_builtin; refine wpList_append_own _ rfl _ _ 68 rfl w.heap.size 9 i0 (.string ⟨#[]⟩) 1 16 Try.underlying68 HI.out HZ.out.1 HZ.out.2.1 HZ.out.2.2 rfl (by decide) _ _ _ rfl (HRW3.out.alloc _) ⟨w3.heap.size, 0, none⟩ 1 1 [encStr x] rfl rfl (cell_one_new _ _ _) (by simp [Value.oneCell', encStr]) (by unfold maxLen at *; omega) (by omega) (by simp; omega) ?_; intro v4 w4 hown4 hg4 hnil4)
        | go_in)
      have hg3a := hg3
      have hrg3 := (((HRG2.out.kept hg3 (by simp) (by simp)).alloc (.cells #[encStr x] 9)).kept hg4 (row_ne_low (HRW3.out.alloc (.cells #[encStr x] 9)) hbl) (row_ne_iter (HRW3.out.alloc (.cells #[encStr x] 9)) ((HRG2.out.kept hg3 (by simp) (by simp)).alloc (.cells #[encStr x] 9))))
      go_roundw
      case rel =>
        refine ⟨_, cnt2, ss ++ [x], hrg3, by simp; omega, by simpa using hown4, fun hv' => by have := (hnil4.1 hv').2; omega, HC.out.step HAT.out.1 HAT.out.2, ?_⟩
        exact (((hnx.grown hg2 hnx.size (fun j hj => by cases hj; exact hg1s)).grown hg3 (by omega) (fun j hj => by cases hj)).alloc (by omega) _).grown hg4 (by simp; omega) (fun j hj => (HRW3.out.lt j hj).1)
      case measure => rw [hrg3.left_eq, HRG.out.left_eq]; exact hlt

set_option maxRecDepth 100000 in
set_option maxHeartbeats 1000000 in
theorem plist_nil {w : World} {fs : Nat} {lv : Value} {room used : Int} (hfs : w.heap[fs]? = some (Vp.fsC lv room used (.map none))) :
    Calls Try.prog 30 #[.pointer (some ⟨fs, 0, none⟩)] w (Vp.Listed w (fun _ => false)) := by
  obtain ⟨c0, c1, c2, c3, cf, fsl⟩ := Vp.fs_cells hfs
  obtain ⟨i0, hi0, hz0, hz1, hz2⟩ := info_parts Vp.strinfo
  have HI := Lib.hid hi0
  have HZ := Lib.hid (And.intro hz0 (And.intro hz1 hz2))
  clear hi0 hz0 hz1 hz2 c0 c1 c2 cf hfs
  go_enter Try.func30, Try.ntmps30
  go_wp2_with (first
    | (at_make; refine wpList_make_own _ rfl _ _ 68 rfl w.heap.size 9 i0 (.string ⟨#[]⟩) 1 Try.underlying68 HI.out HZ.out.1 HZ.out.2.1 _ _ _ 0 rfl rfl rfl (by omega) (Nat.zero_le _) (Nat.le_refl _) ?_; intro w1 hrow1 hg1; have HR1 := Lib.hid hrow1; clear hrow1; have c3' := (hg1.cell_far ⟨fs, 3, none⟩ fsl (by simp)).trans c3
       have hrg := run_range_nilMap (P := Try.prog) w1 51 9 71 Try.underlying51
       have hnx : ∀ ty, (Instr.next (.pointer (some ⟨w1.heap.size, 0, none⟩)) false ty).run Try.prog (w1.alloc (.mapIter none 0 #[] 0)) = _ := fun ty => run_next_nilMap _ ty 0 0 #[])
    | go_in)
  refine wp_loop_rounds 1 ?_
  rw [rounds_succ]
  have hrow2 := HR1.out.alloc (.mapIter none 0 #[] 0)
  rcases hrow2.2 with ⟨hnil, _⟩ | ⟨g, cap, cur, hv, hbase, hb, h1, h2, h3, h4⟩
  · cases hnil
  cases hv
  have hH : Go.Sort.Holds encStr (w1.alloc (.mapIter none 0 #[] 0)) w.heap.size 0 ([] : List (List UInt8)).toArray := fun j hj => absurd hj (by simp)
  have HS := Lib.hid (Try.slices_Sort_string w.heap.size 0 0 [] _ hH (Array.getElem?_eq_some_iff.1 hb).1 (by decide))
  have HP := Lib.hid (And.intro hbase (And.intro hb (And.intro h1 (And.intro h2 h3))))
  clear hH hb h1 h2 h3 h4 hrow2
  go_wp2_with (go_at_call 54; (refine HS.out.mono ?_); rintro e w' ⟨rfl, nn, os, rfl⟩)
  go_ret
  obtain ⟨hbase, hb, h1, h2, h3⟩ := HP.out
  exact ⟨_, _, [], rfl, List.nodup_nil, fun x => by simp, (by rw [List.mergeSort_nil]; exact ownsRow_sorted (ss := []) (ts := []) rfl hbase hb h1 h2 h3), (((Below.refl _ _).grown hg1 (Nat.le_refl _) (fun j hj => by cases hj)).alloc hg1.size _).grown (grownBy_sorted _) (by have := hg1.size; simp; omega) (fun j hj => by cases hj; exact Nat.le_refl _)⟩

/-- List of an object: a row of the call's own that reads as the names, sorted. -/
theorem plist_any {w : World} {M : Nat → Prop} {fs N : Nat} {S : Vf.Sv} (h : Vp.Pg w M fs N S) (hN : N ≤ 1048576) :
    Calls Try.prog 30 #[.pointer (some ⟨fs, 0, none⟩)] w fun e w' => ∃ v, e = .returned v ∧ Ss w' (fun i => w.heap.size ≤ i) v (Vf.names S.now) ∧ Below w.heap.size w w' := by
  obtain ⟨mb, lr, I, db, G, c, j, lv, mv, ys, h1, h2, h3, h4⟩ := h
  have hv := Vp.view_now h2 h3
  obtain ⟨k, hk, hm⟩ := h1.map
  have key : ∀ has : List UInt8 → Bool, (∀ x, has x = (c.map x).isSome) → ∀ e w', Vp.Listed w has e w' → ∃ v, e = .returned v ∧ Ss w' (fun i => w.heap.size ≤ i) v (Vf.names S.now) ∧ Below w.heap.size w w' := by
    rintro has hh e w' ⟨g, cap, ss, rfl, hnd, hm, hown, hb⟩
    have hns := Vf.names_of S.now hv.uniq hnd (fun x => by
      rw [hm x, hh x, ← hv.look x]
      cases c.map x <;> simp)
    have hl : (Vf.names S.now).length = ss.length := by rw [← hns]; simp
    refine ⟨_, rfl, Ss.own (e := 9) (l := Vf.names S.now) ?_, hb⟩
    rw [hl, ← hns]
    exact hown
  have hfs := h1.heap
  rcases hm with ⟨rfl, _, h0⟩ | ⟨b, D, rfl, _, hown, _, hhas⟩
  · exact (plist_nil hfs).mono (fun e w' => key _ (fun x => by rw [h0 x]; rfl) e w')
  · refine (plist_map hfs hown (by omega) (fun x hx => ?_)).mono (fun e w' => key _ hhas e w')
    rw [hhas x] at hx
    obtain ⟨id, hid⟩ := Option.isSome_iff_exists.1 hx
    have h5 := (h1.file id (h1.live.1 x id hid)).2.2.1
    rw [hv.name x id hid] at h5
    omega

end Go.Proofs.Ytiacpopgnmledaa
