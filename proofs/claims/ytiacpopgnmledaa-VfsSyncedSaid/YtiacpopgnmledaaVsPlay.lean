/-
  CONTRACTS: chapter 3's law: both begun; what comes in is kept.
-/
import Derived.Test.YtiacpopgnmledaaVsHeavy
namespace Go.Proofs.Ytiacpopgnmledaa
open Go.RowKit
open Me Vf
namespace Vs
theorem Acts.below {w w' : World} {G : Nat → Prop} {v : Value} {l : List A} (h : Acts w G v l) (b : Below w.heap.size w w') : Acts w' G v l := by
  obtain ⟨A, c, xs, e, h1, h2, h3, h4⟩ := h
  exact ⟨A, c, xs, e, h1, h2, h3.below b, h4.mono fun a cs ⟨⟨v, ev, hp⟩, r⟩ => ⟨⟨v, ev, hp.keep b.size (fun i hi _ => b.block i hi)⟩, r⟩⟩
/-- Both, in a state, with all blocks from B on. -/
def Run (w : World) (fs xs k : Nat) (S1 S2 : Sv) (wr : World) : Prop := Below w.heap.size w wr ∧ ∃ U, Duo wr U fs xs (2 * k) k S1 S2 ∧ ∀ b, U b → w.heap.size ≤ b
theorem duo_new {w w1 w2 : World} {room : Int} {nv wv lv : Value} {ys : List Value} (hp : ∃ M, Vp.Pg w1 M w.heap.size 0 ⟨room, [], [], []⟩ ∧ ∀ b, M b → w.heap.size ≤ b) (hb1 : Below w.heap.size w w1)
    (ha : At w2 (fun _ => False) w1.heap.size none ⟨room, [], [], []⟩ nv wv lv ys) (hb2 : Below w1.heap.size w1 w2) (h0 : 0 ≤ room) (h1 : room ≤ 1073741824) : Run w w.heap.size w1.heap.size 0 ⟨room, [], [], []⟩ ⟨room, [], [], []⟩ w2 := by
  obtain ⟨M, p1, p2⟩ := hp
  obtain ⟨M2, q1, q2⟩ := p1.tight
  refine ⟨hb1.trans (hb2.mono hb1.size), fun b => w.heap.size ≤ b, ⟨M2, _, none, nv, wv, lv, ys, q1.below hb2, ha, Inv.new h0 h1, Inv.new h0 h1, fun b hb => ⟨p2 b (q2 b hb).1, Nat.lt_of_lt_of_le (q2 b hb).2 hb2.size, id, fun e => by have := (q2 b hb).2; omega, fun e => nomatch e⟩, fun b hb => hb.elim, hb1.size, fun g hg => nomatch hg⟩, fun b hb => hb⟩
theorem Run.next {w wr w' : World} {U : Nat → Prop} {fs xs k : Nat} {S1 S2 : Sv} (hB : Below w.heap.size w wr) (hU : ∀ b, U b → w.heap.size ≤ b) (h : DuoNext wr U fs xs (2 * k + 2) (k + 1) S1 S2 w') : Run w fs xs (k + 1) S1 S2 w' := by
  obtain ⟨U', h1, h2, h3⟩ := h
  refine ⟨hB.trans (h2.below hB.size (fun i hi hu => by have := hU i hu; omega)), U', by rw [Nat.mul_add]; exact h1, fun b hb => ?_⟩
  rcases h3 b hb with h | h
  · exact hU b h
  · exact Nat.le_trans hB.size h
/-- The law's act in a run, at the act's own cells. -/
theorem Run.act {w wr : World} {fs xs k : Nat} {S1 S2 : Sv} {l : List A} {v : Value} (h : Run w fs xs k S1 S2 wr) (hl : Acts w (Old w) v l) (hli : Light l) (i : Nat) (hi : i < l.length) (h100 : i < 100) (hk : k ≤ 1000) :
    ∃ rb ro c A2 c2, v = .slice (some ⟨rb, ro, none⟩) l.length c ∧ wr.cell? ⟨rb, ro + i * 5, none⟩ = some (.int .i64 l[i].kind) ∧ wr.cell? ⟨rb, ro + i * 5 + 1, none⟩ = some (.int .i64 l[i].off) ∧ wr.cell? ⟨rb, ro + i * 5 + 2, none⟩ = some (.int .i64 l[i].n) ∧
      wr.cell? ⟨rb, ro + i * 5 + 3, none⟩ = some (.string ⟨(l[i].name).toArray⟩) ∧ wr.cell? ⟨rb, ro + i * 5 + 4, none⟩ = some (.slice A2 (l[i].b).length c2) ∧
      Calls Try.prog 9 #[.pointer (some ⟨fs, 0, none⟩), .pointer (some ⟨xs, 0, none⟩), .agg #[.int .i64 l[i].kind, .int .i64 l[i].off, .int .i64 l[i].n, .string ⟨l[i].name.toArray⟩, .slice A2 (l[i].b).length c2]] wr fun e w' => ∃ r : Bool, e = .returned (.bool r) ∧ Hid ((S1 = S2 → r = true) ∧ Run w fs xs (k + 1) (step S1 l[i]) (step S2 l[i]) w') := by
  obtain ⟨hB, U, hd, hU⟩ := h
  obtain ⟨rb, ro, c, A2, c2, rfl, _, _, d0, d1, d2, d3, d4, hps, _, hoff, _, _⟩ := (hl.below hB).nth i hi
  obtain ⟨l1, l2, l3⟩ := hli i hi h100
  have hfl := flat_light l2 l3
  refine ⟨rb, ro, c, A2, c2, rfl, d0, d1, d2, d3, d4, ?_⟩
  refine (act_any hd l[i] _ hps (fun b hb => ⟨Nat.lt_of_lt_of_le hb hB.size, fun hu => by have := hU b hu; unfold Old at hb; omega⟩) hoff.2 (by omega) (by omega) (by omega) (by omega)).mono ?_
  rintro e w' ⟨r, rfl, h1, h2⟩
  exact ⟨r, rfl, Lib.hid ⟨h1, Run.next hB hU h2⟩⟩
theorem Run.used {w wr : World} {fs xs k : Nat} {S1 S2 : Sv} (h : Run w fs xs k S1 S2 wr) :
    Calls Try.prog 32 #[.pointer (some ⟨fs, 0, none⟩)] wr (fun e w' => e = .returned (.int .i64 (Vf.used S1.now : Int)) ∧ wr = w') ∧ (Vf.used S1.now : Int) ≤ S1.room := by
  obtain ⟨hB, U, ⟨M, G, lr, nv, wv, lv, ys, h1, h2, h3, h4, _⟩, hU⟩ := h
  exact ⟨pused_any h1, h3.last.2⟩
end Vs
end Go.Proofs.Ytiacpopgnmledaa
