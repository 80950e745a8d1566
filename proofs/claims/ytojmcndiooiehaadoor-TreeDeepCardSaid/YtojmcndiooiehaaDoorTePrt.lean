/-
  CONTRACTS: chapter 15: the program's Print; the law's known.
-/
import Derived.Test.YtojmcndiooiehaaDoorTeIs
import Derived.Test.YtojmcndiooiehaaDoorTePar
namespace Go.Proofs.YtojmcndiooiehaaDoor
open Go.RowKit Go.Sort
open Me

namespace Te
theorem plain_len (u : Nat) : (Dc.plain u).length ≤ 20 := Dc.plain_length u
theorem frac_len {n : Nat} (h : n < 1000000) : (Dc.fracText n).length ≤ 7 := by
  unfold Dc.fracText
  split
  · simp
  · have h1 := Dc.trim_len (Dc.six n)
    have h2 := Dc.six_len h
    simp; omega
theorem pr_len (n : Int) : (Dc.pr true n).length ≤ 28 := by
  unfold Dc.pr
  split
  · unfold Dc.sgn Dc.pbod
    have h1 := plain_len (n.natAbs / 1000000)
    have h2 := frac_len (n := n.natAbs % 1000000) (by omega)
    split <;> simp <;> omega
  · simp [Dc.noneText]
mutual
theorem txt_len : ∀ x : Nd, (txt x).length + 1 ≤ 6 * wt x
  | .mk k s n ks => by
    rw [txt, wt]
    have h := txts_len2 true ks
    split
    · simp only [List.length_append, List.length_singleton]; omega
    · split
      · omega
      · split
        · have := pr_len n; omega
        · split
          · rw [quoted_eq]; simp; omega
          · split
            · split
              · show 5 ≤ _; omega
              · show 6 ≤ _; omega
            · omega
theorem txts_len2 : ∀ (b : Bool) (l : List Nd), (txts b l).length ≤ 6 * wts l
  | _, [] => by rw [txts]; exact Nat.zero_le _
  | b, x :: r => by
    rw [txts, wts, List.length_append, List.length_append]
    have h1 := txt_len x
    have h2 := txts_len2 false r
    cases b
    · show 1 + _ ≤ _; omega
    · show 0 + _ ≤ _; omega
end
/-- A node's text, if it may be. -/
def printS (x : Nd) : List UInt8 := if isOk x = true then txt x else []
end Te

set_option maxRecDepth 100000 in
set_option maxHeartbeats 4000000 in
theorem tprint_any {G : Nat → Prop} (x : Te.Nd) (hw : Te.wt x ≤ 1048576) (v : Value) (w : World) (hat : Te.At w G x v) :
    Calls Tryd.prog 8 #[Te.val x v] w fun e w' => e = .returned (.string ⟨(Te.printS x).toArray⟩) ∧ Below w.heap.size w w' := by
  have HIS : Hid (∀ W, Below w.heap.size w W → Calls Tryd.prog 11 #[Te.val x v] W fun e w' => e = .returned (.bool (Te.isOk x)) ∧ Below W.heap.size W w') := Lib.hid fun W hW => tis_any x hw v W (hat.below hW)
  have htl := Te.txt_len x
  have HND : Hid (Te.isOk x = true → ∀ B r W, w.heap.size ≤ B → Below w.heap.size w W → Tb.Pr B r [] W → B ≤ W.heap.size → Calls Tryd.prog 12 #[.pointer (some ⟨r, 0, none⟩), Te.val x v] W fun e w' => e = .returned (.tuple #[]) ∧ Tb.Pw B r (Te.txt x) W w') := Lib.hid fun hok B r W hB hW hp hBW =>
    tnode_any B r 64 x hok [] W v hp hBW (Te.At.keep hW.size (fun i hi _ => Nat.lt_of_lt_of_le hi hB) (fun i hi _ => hW.block i hi) _ _ hat) (by simp; omega)
  have HE : Hid (Te.printS x = if Te.isOk x = true then Te.txt x else []) := Lib.hid rfl
  obtain ⟨k, s, n, ks⟩ := x
  obtain ⟨A, c, xs, rfl, _, _⟩ := hat.form
  have HIS : Hid (∀ W, Below w.heap.size w W → Calls Tryd.prog 11 #[.agg #[.int .i64 k, .string ⟨s.toArray⟩, .int .i64 n, .slice A ks.length c]] W fun e w' => e = .returned (.bool (Te.isOk (.mk k s n ks))) ∧ Below W.heap.size W w') := HIS
  have HND : Hid (Te.isOk (.mk k s n ks) = true → ∀ B r W, w.heap.size ≤ B → Below w.heap.size w W → Tb.Pr B r [] W → B ≤ W.heap.size → Calls Tryd.prog 12 #[.pointer (some ⟨r, 0, none⟩), .agg #[.int .i64 k, .string ⟨s.toArray⟩, .int .i64 n, .slice A ks.length c]] W fun e w' => e = .returned (.tuple #[]) ∧ Tb.Pw B r (Te.txt (.mk k s n ks)) W w') := HND
  show Calls Tryd.prog 8 #[.agg #[.int .i64 k, .string ⟨s.toArray⟩, .int .i64 n, .slice A ks.length c]] w _
  generalize Te.printS (.mk k s n ks) = R at *
  generalize Te.isOk (.mk k s n ks) = q at *
  generalize Te.txt (.mk k s n ks) = T at *
  have HB : Hid (Below w.heap.size w (w.alloc (.cells #[.int .i64 k, .string ⟨s.toArray⟩, .int .i64 n, .slice A ks.length c] 25))) := Lib.hid ((Below.refl w.heap.size w).alloc (Nat.le_refl _) _)
  clear hat htl hw
  cases q
  · have HQ : Hid (R = []) := Lib.hid (by rw [HE.out]; rfl)
    go_enter Tryd.func8, Tryd.ntmps8
    go_wp2_with (go_at_call 11; go_must (refine (HIS.out _ HB.out).mono ?_; rintro e w6 ⟨rfl, hw6⟩; have HW6 : Hid (Below w.heap.size w w6) := Lib.hid (HB.out.trans (hw6.mono (by simp))); clear hw6))
    go_ret
    exact ⟨by rw [HQ.out]; rfl, HW6.out⟩
  · have HQ : Hid (R = T) := Lib.hid (by rw [HE.out]; rfl)
    have HND2 := Lib.hid (HND.out rfl)
    go_enter Tryd.func8, Tryd.ntmps8
    go_wp2_with (go_at_call 11; go_must (refine (HIS.out _ HB.out).mono ?_; rintro e w6 ⟨rfl, hw6⟩; have HW6 : Hid (Below w.heap.size w w6) := Lib.hid (HB.out.trans (hw6.mono (by simp))); have hr6 : RowAt w6 w.heap.size 25 #[.int .i64 k, .string ⟨s.toArray⟩, .int .i64 n, .slice A ks.length c] := (RowAt.new w _ _).below hw6 (by simp); have x0 : w6.cell? ⟨w.heap.size, 0, none⟩ = some (.int .i64 k) := (hr6.cell 0).trans rfl; have x1 : w6.cell? ⟨w.heap.size, 1, none⟩ = some (.string ⟨s.toArray⟩) := (hr6.cell 1).trans rfl; have x2 : w6.cell? ⟨w.heap.size, 2, none⟩ = some (.int .i64 n) := (hr6.cell 2).trans rfl; have x3 : w6.cell? ⟨w.heap.size, 3, none⟩ = some (.slice A ks.length c) := (hr6.cell 3).trans rfl; have l6 := hr6.lt; clear hw6 hr6))
    go_at_call 12
    have hp : Tb.Pr w6.heap.size w6.heap.size [] (w6.alloc (.cells #[.pointer none, .slice none 0 0] 46)) := ⟨.pointer none, .slice none 0 0, ⟨Nat.le_refl _, RowAt.new w6 _ _, World.ownsRow_nil _ _ _ _⟩, .inl rfl⟩
    refine (HND2.out w6.heap.size w6.heap.size _ HW6.out.size (HW6.out.alloc HW6.out.size _) hp (by simp)).mono ?_
    rintro e w7 ⟨rfl, hw7⟩
    have HW7 := Lib.hid hw7
    have HB7 : Hid (Below w.heap.size w w7) := Lib.hid ((HW6.out.alloc HW6.out.size _).trans (hw7.bel.mono HW6.out.size))
    clear hw7 hp
    go_wp2_with fail
    go_at_call 13
    obtain ⟨p, v, hbl, _⟩ := HW7.out.pr
    refine (tbString_any hbl (by have := HW7.out.size; simp at this; omega)).mono ?_
    rintro e w8 ⟨rfl, hb8⟩
    have HB8 : Hid (Below w.heap.size w w8) := Lib.hid (HB7.out.trans (hb8.mono HW6.out.size))
    clear hb8 hbl
    go_wp2_with fail
    go_ret
    exact ⟨by rw [HQ.out]; rfl, HB8.out⟩
end Go.Proofs.YtojmcndiooiehaaDoor
