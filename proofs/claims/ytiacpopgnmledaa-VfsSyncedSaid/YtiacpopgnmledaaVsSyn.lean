/-
  CONTRACTS: chapter 3's law: three objects: what was synced is kept beside.
-/
import Derived.Test.YtiacpopgnmledaaVsPlays
namespace Go.Proofs.Ytiacpopgnmledaa
open Go.RowKit
open Me Vf
namespace Vf
theorem goes_still (a : Ac) (i : Int) (h2 : a.kind = 2) (hp : a.p = []) : ∀ (l : List Fl) (k : Nat), goes a i k l = l
  | [], _ => rfl
  | x :: r, k => by
    have h1 : one a i k x = [x] := by
      unfold one
      rw [hp, Vp.upd_nil, h2]
      split <;> simp
    rw [goes, h1, goes_still a i h2 hp r (k + 1)]
    rfl
theorem crash_none (S : Sv) (n m : Int) (hn : n ≤ 0) (hm : m ≤ 0) : crash S n m = S.was := by
  have h0 : n.toNat = 0 := by omega
  unfold crash
  rw [h0]
  cases hl : S.l[0]? with
  | none =>
    have : S.l = [] := by
      cases h : S.l with
      | nil => rfl
      | cons a r => rw [h] at hl; cases hl
    show rep S.was S.l = S.was
    rw [this]
    rfl
  | some a =>
    show (if a.kind = 2 then does (rep S.was (S.l.take 0)) (cut a m) else rep S.was (S.l.take 0)) = S.was
    split
    · rename_i h2
      have ht : torn a m = 0 := by
        unfold torn
        have : min m (a.p.length : Int) ≤ 0 := by omega
        omega
      have hp : (cut a m).p = [] := by
        unfold cut
        rw [ht]
        rfl
      have hk : (cut a m).kind = 2 := h2
      unfold does
      rw [goes_still _ _ hk hp, if_neg (by omega)]
      simp [rep]
    · rfl
end Vf
namespace Vs
/-- f and y at work, x beside them. -/
def Trio (w : World) (fs xs ys N c : Nat) (S Sf Sy : Sv) (wr : World) : Prop := Below w.heap.size w wr ∧ Sf.was = S.was ∧ Sf.room = S.room ∧
  ∃ U G lr nv wv lv zs, Duo wr U fs ys N c Sf Sy ∧ At wr G xs lr S nv wv lv zs ∧ ∀ b, U b → w.heap.size ≤ b ∧ ¬ G b ∧ b ≠ xs ∧ lr ≠ some b
theorem trio_start {w w1 w2 : World} {fs xs k : Nat} {S : Sv} {nv wv lv : Value} {zs : List Value} (h : Run w fs xs k S S w1) (ha : At w2 (fun _ => False) w1.heap.size none ⟨1048576, [], [], []⟩ nv wv lv zs) (hb : Below w1.heap.size w1 w2) :
    Trio w fs xs w1.heap.size (2 * k) k S S ⟨1048576, [], [], []⟩ w2 := by
  obtain ⟨hB, U, ⟨M, G, lr, nv', wv', lv', ys, h1, h2, h3, h4, h5, h6, h7, h8⟩, hU⟩ := h
  have hxl := h2.fsLt
  have hll : ∀ g, lr = some g → g < w1.heap.size := fun g hg => (h2.own.lt g (h2.row.trans hg)).2
  refine ⟨hB.trans (hb.mono hB.size), rfl, rfl, fun b => M b ∨ b = w1.heap.size, G, lr, nv', wv', lv', ys, ⟨M, fun _ => False, none, nv, wv, lv, zs, h1.below hb, ha, h3, (Inv.new (by omega) (by omega)).mono (Nat.zero_le _), fun b hm => ⟨.inl hm, Nat.lt_of_lt_of_le (h5 b hm).2.1 hb.size, id, fun e => by have := (h5 b hm).2.1; omega, fun e => nomatch e⟩, fun b hf => hf.elim, .inr rfl, fun g e => nomatch e⟩, h2.below hb, fun b hbb => ?_⟩
  rcases hbb with hm | rfl
  · exact ⟨hU b (h5 b hm).1, (h5 b hm).2.2⟩
  · exact ⟨hB.size, fun hg => by have := h2.lt _ hg; omega, fun e => by omega, fun e => by have := hll _ e; omega⟩
theorem Trio.below {w wr w' : World} {fs xs ys N c : Nat} {S Sf Sy : Sv} (h : Trio w fs xs ys N c S Sf Sy wr) (hb : Below wr.heap.size wr w') : Trio w fs xs ys N c S Sf Sy w' := by
  obtain ⟨hB, e1, e2, U, G, lr, nv, wv, lv, zs, hd, ha, hu⟩ := h
  exact ⟨hB.trans (hb.mono hB.size), e1, e2, U, G, lr, nv, wv, lv, zs, hd.below hb, ha.below hb, hu⟩
theorem step_was {S : Sv} {a : A} (h : a.kind ≤ 3) : (step S a).was = S.was := by
  unfold step
  split
  · unfold Vf.create; repeat (first | rfl | split)
  · split
    · unfold Vf.write; repeat (first | rfl | split)
    · split
      · unfold Vf.remove; repeat (first | rfl | split)
      · rw [if_neg (by omega), if_neg (by omega)]
/-- An act of f and y. -/
theorem Trio.next {w wr w' : World} {fs xs ys N' c' : Nat} {S Sf' Sy' : Sv} (hB : Below w.heap.size w wr) {U G : Nat → Prop} {lr : Option Nat} {nv wv lv : Value} {zs : List Value} (ha : At wr G xs lr S nv wv lv zs)
    (hu : ∀ b, U b → w.heap.size ≤ b ∧ ¬ G b ∧ b ≠ xs ∧ lr ≠ some b) (hn : DuoNext wr U fs ys N' c' Sf' Sy' w') (e1 : Sf'.was = S.was) (e2 : Sf'.room = S.room) : Trio w fs xs ys N' c' S Sf' Sy' w' := by
  obtain ⟨U', hd, hk, hU⟩ := hn
  have hxl := ha.fsLt
  have hll : ∀ g, lr = some g → g < wr.heap.size := fun g hg => (ha.own.lt g (ha.row.trans hg)).2
  refine ⟨hB.trans (hk.below hB.size (fun i hi hu' => by have := (hu i hu').1; omega)), e1, e2, U', G, lr, nv, wv, lv, zs, hd, ha.kp hk (fun b hb => (hu b hb).2), fun b hb => ?_⟩
  rcases hU b hb with h | h
  · exact hu b h
  · exact ⟨Nat.le_trans hB.size h, fun hg => by have := ha.lt _ hg; omega, fun e => by omega, fun e => by have := hll _ e; omega⟩
theorem Trio.more {w wr : World} {fs xs ys N c N' c' : Nat} {S Sf Sy : Sv} (h : Trio w fs xs ys N c S Sf Sy wr) (hN : N ≤ N') (hc : c ≤ c') : Trio w fs xs ys N' c' S Sf Sy wr := by
  obtain ⟨hB, e1, e2, U, G, lr, nv, wv, lv, zs, hd, ha, hu⟩ := h
  exact ⟨hB, e1, e2, U, G, lr, nv, wv, lv, zs, hd.more hN hc, ha, hu⟩
def syn (S : Sv) : Sv := { S with was := S.now, l := [] }
theorem Run.inv {w wr : World} {fs xs k : Nat} {S : Sv} (h : Run w fs xs k S S wr) : Vf.Inv k S := by
  obtain ⟨_, U, ⟨M, G, lr, nv, wv, lv, ys, _, _, _, h4, _⟩, _⟩ := h
  exact h4
theorem Run.sync {w wr : World} {fs xs k : Nat} {S : Sv} (h : Run w fs xs k S S wr) :
    Calls Try.prog 12 #[.pointer (some ⟨fs, 0, none⟩)] wr fun e w1 => e = .returned (.tuple #[]) ∧ Hid (Calls Try.prog 13 #[.pointer (some ⟨xs, 0, none⟩)] w1 fun e w2 => e = .returned (.tuple #[]) ∧ Hid (Run w fs xs (k + 1) (syn S) (syn S) w2)) := by
  obtain ⟨hB, U, hd, hU⟩ := h
  refine (hd.prog (c' := k + 1) (N' := 2 * k) (v := .tuple #[]) (S1' := syn S) (Below.refl _ _) (fun i => i.sync.mono (Nat.le_succ _)) (fun M hp _ => psync_any hp)).mono ?_
  rintro e w1 ⟨rfl, hh, _⟩
  refine ⟨rfl, Lib.hid ?_⟩
  refine (Half.sync hh.out).mono ?_
  rintro e w2 ⟨rfl, hn, _⟩
  obtain ⟨U', h1, h2, h3⟩ := hn.out
  exact ⟨rfl, Lib.hid (Run.next hB hU ⟨U', h1.more (by omega) (Nat.le_refl _), h2, h3⟩)⟩
theorem Trio.act {w wr : World} {fs xs ys N c : Nat} {S Sf Sy : Sv} {l : List A} {v : Value} (h : Trio w fs xs ys N c S Sf Sy wr) (hl : Acts w (Old w) v l) (hli : Light l) (i : Nat) (hi : i < l.length) (h100 : i < 100) (hN : N ≤ 4096) (hc : c ≤ 4095) :
    ∃ rb ro c0 A2 c2, v = .slice (some ⟨rb, ro, none⟩) l.length c0 ∧ wr.cell? ⟨rb, ro + i * 5, none⟩ = some (.int .i64 l[i].kind) ∧ wr.cell? ⟨rb, ro + i * 5 + 1, none⟩ = some (.int .i64 l[i].off) ∧ wr.cell? ⟨rb, ro + i * 5 + 2, none⟩ = some (.int .i64 l[i].n) ∧
      wr.cell? ⟨rb, ro + i * 5 + 3, none⟩ = some (.string ⟨(l[i].name).toArray⟩) ∧ wr.cell? ⟨rb, ro + i * 5 + 4, none⟩ = some (.slice A2 (l[i].b).length c2) ∧
      (l[i].kind ≤ 3 → Calls Try.prog 9 #[.pointer (some ⟨fs, 0, none⟩), .pointer (some ⟨ys, 0, none⟩), .agg #[.int .i64 l[i].kind, .int .i64 l[i].off, .int .i64 l[i].n, .string ⟨l[i].name.toArray⟩, .slice A2 (l[i].b).length c2]] wr fun e w' =>
        ∃ r : Bool, e = .returned (.bool r) ∧ Hid (Trio w fs xs ys (N + 2) (c + 1) S (step Sf l[i]) (step Sy l[i]) w')) := by
  obtain ⟨hB, e1, e2, U, G, lr, nv, wv, lv, zs, hd, ha, hu⟩ := h
  obtain ⟨rb, ro, c0, A2, c2, rfl, _, _, d0, d1, d2, d3, d4, hps, _, hoff, _, _⟩ := (hl.below hB).nth i hi
  obtain ⟨l1, l2, l3⟩ := hli i hi h100
  have hfl := flat_light l2 l3
  refine ⟨rb, ro, c0, A2, c2, rfl, d0, d1, d2, d3, d4, fun h3 => ?_⟩
  refine (act_any hd l[i] _ hps (fun b hb => ⟨Nat.lt_of_lt_of_le hb hB.size, fun hu' => by have := (hu b hu').1; unfold Old at hb; omega⟩) hoff.2 (by omega) (by omega) (by omega) (by omega)).mono ?_
  rintro e w' ⟨r, rfl, _, h2⟩
  exact ⟨r, rfl, Lib.hid (Trio.next hB ha hu h2 (by rw [step_was h3, e1]) (by rw [step_room, e2]))⟩
theorem Trio.crash {w wr : World} {fs xs ys N c : Nat} {S Sf Sy : Sv} (h : Trio w fs xs ys N c (syn S) Sf Sy wr) (hI : Vf.Inv c (syn S)) (n m : Int) (hn : n ≤ 0) (hm : m ≤ 0) (hN : N ≤ 1048575) :
    Calls Try.prog 14 #[.pointer (some ⟨fs, 0, none⟩), .int .i64 n, .int .i64 m] wr fun e w' => e = .returned (.tuple #[]) ∧ Hid (Below w.heap.size w w' ∧ Duo w' (fun _ => True) fs xs N c (syn S) (syn S)) := by
  obtain ⟨hB, e1, e2, U, G, lr, nv, wv, lv, zs, ⟨M, G2, lr2, _, _, _, _, h1, _, h3, _, h5, _⟩, ha, hu⟩ := h
  refine (pcrash_any h1 n m hN h3).mono ?_
  rintro e w' ⟨rfl, M', p1, p2, p3⟩
  have es : (⟨Sf.room, Vf.crash Sf n m, Vf.crash Sf n m, []⟩ : Sv) = syn S := by
    rw [Vf.crash_none Sf n m hn hm, e1, e2]
    rfl
  rw [es] at p1
  obtain ⟨M2, q1, q2⟩ := p1.tight
  have hxl := ha.fsLt
  have hll : ∀ g, lr = some g → g < wr.heap.size := fun g hg => (ha.own.lt g (ha.row.trans hg)).2
  refine ⟨rfl, Lib.hid ⟨hB.trans (p2.below hB.size (fun i hi hm => by have := (hu i (h5 i hm).1).1; omega)), M2, G, lr, nv, wv, lv, zs, q1, ha.kp p2 (fun b hb => (hu b (h5 b hb).1).2), hI, hI, fun b hb => ⟨trivial, (q2 b hb).2, ?_⟩, fun _ _ => trivial, trivial, fun _ _ => trivial⟩⟩
  rcases p3 b (q2 b hb).1 with h | h
  · exact (hu b (h5 b h).1).2
  · exact ⟨fun hg => by have := ha.lt _ hg; omega, fun e => by omega, fun e => by have := hll _ e; omega⟩
end Vs
end Go.Proofs.Ytiacpopgnmledaa
