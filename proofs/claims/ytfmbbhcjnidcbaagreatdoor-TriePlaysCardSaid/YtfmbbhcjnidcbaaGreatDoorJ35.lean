/-
  TrRead: CONTRACTS: package trie: read: all that comes out of a pattern, branching.
  TrWild: CONTRACTS: package trie: wildOf: what goes on from patterns by parts that are not plain.
-/
import Derived.Test.YtfmbbhcjnidcbaaGreatDoorJ23
import Derived.Test.YtfmbbhcjnidcbaaGreatDoorJ34

namespace Go.Proofs.YtfmbbhcjnidcbaaGreatDoor
open Go.RowKit
open Me

namespace Tr
def readErr (s : List UInt8) (L : List (List UInt8)) : Int := if Gl.expErr s L ≠ 0 then Gl.expErr s L else if L.all Gl.partsOk = true then 0 else 8
/-- A tree of patterns of the call's own. -/
def Pat (w W : World) (rb k : Nat) (T : List (List UInt8)) : Prop := ∃ c G, c ≤ 20 * k ∧ Tree W 55 (.bool false) c G ∧ (∃ n, G [] = some n ∧ n.b = rb) ∧ Of G T ∧ (∀ i, own G i → w.heap.size ≤ i) ∧ Below w.heap.size w W
def ReadR (w : World) (s : List UInt8) (L : List (List UInt8)) (e : Ending) (w' : World) : Prop :=
  Below w.heap.size w w' ∧ ((∃ rb, e = .returned (.tuple #[.pointer (some ⟨rb, 0, none⟩), .int .i64 0]) ∧ readErr s L = 0 ∧ Pat w w' rb L.length L) ∨ (e = .returned (.tuple #[.pointer none, .int .i64 (readErr s L)]) ∧ readErr s L ≠ 0))
theorem ReadR.no {w : World} {s : List UInt8} {L : List (List UInt8)} {bad : Int} {w' : World} (hb : Below w.heap.size w w') (h : readErr s L = bad) (h0 : bad ≠ 0) : ReadR w s L (.returned (.tuple #[.pointer none, .int .i64 bad])) w' := ⟨hb, .inr ⟨by rw [h], by rw [h]; exact h0⟩⟩
theorem ReadR.yes {w : World} {s : List UInt8} {L : List (List UInt8)} {rb : Nat} {w' : World} (h : readErr s L = 0) (hp : Pat w w' rb L.length L) : ReadR w s L (.returned (.tuple #[.pointer (some ⟨rb, 0, none⟩), .int .i64 0])) w' := ⟨by obtain ⟨_, _, _, _, _, _, _, hb⟩ := hp; exact hb, .inl ⟨rb, rfl, h, hp⟩⟩
theorem Pat.start {w W : World} (hb : Below w.heap.size w W) : Pat w (W.alloc (.cells #[.map none, .bool false] 55)) W.heap.size 0 [] :=
  ⟨0, empty W.heap.size, Nat.le_refl _, empty_tree (heap_alloc_new W _), ⟨_, rfl, rfl⟩, empty_of _, fun i hi => by rw [empty_own hi]; exact hb.size, hb.alloc hb.size _⟩
theorem Pat.below {w W W' : World} {rb k : Nat} {T : List (List UInt8)} (h : Pat w W rb k T) (hb : Below W.heap.size W W') : Pat w W' rb k T := by
  obtain ⟨c, G, h1, h2, h3, h4, h5, h6⟩ := h
  exact ⟨c, G, h1, h2.below hb, h3, h4, h5, h6.trans (hb.mono h6.size)⟩
/-- A text more: behind grow and the store. -/
theorem Pat.step {w W w3 : World} {rb k : Nat} {T : List (List UInt8)} {t : List UInt8} {c : Nat} {G : Ns} (h1 : c ≤ 20 * k) (ho : Of G T) (h3 : ∃ n, G [] = some n ∧ n.b = rb) (h5 : ∀ i, own G i → w.heap.size ≤ i) (h6 : Below w.heap.size w W) (ht : (Nm.pt t).length ≤ 20) {v : Value} (hg : GrowR W 55 (.bool false) (c + (Nm.pt t).length) G (Nm.pt t) v w3) :
    ∃ yb, v = .pointer (some ⟨yb, 0, none⟩) ∧ w3.frozen? ⟨yb, 1, none⟩ = false ∧ (∃ x, w3.cell? ⟨yb, 1, none⟩ = some x) ∧ ∀ w', w' = w3.setCell ⟨yb, 1, none⟩ (.bool true) → Pat w w' rb (k + 1) (t :: T) := by
  obtain ⟨G', y, hv, hy, htr, hG, hk, hn⟩ := hg
  obtain ⟨c1, f1⟩ := htr.leafc hy (Nm.pt_ne t)
  refine ⟨y.b, hv, f1, ⟨_, c1⟩, fun w' hw => ?_⟩
  obtain ⟨n, e1, e2⟩ := h3
  obtain ⟨n', e3, e4⟩ := hG.same [] n e1
  have hbl := htr.node _ _ hy
  rw [nodeC_ne (Nm.pt_ne t)] at hbl
  have ht1 : Tree w' 55 (.bool false) (c + (Nm.pt t).length) (setF G' (Nm.pt t) (some ⟨y.b, y.mb, true⟩)) := by
    rw [hw]
    exact htr.turn hy rfl (by rw [nodeC_ne (Nm.pt_ne t), put_heap hbl]; rfl) (fun i _ hne => Below.heap_setCell w3 ⟨y.b, 1, none⟩ _ i hne) ((htr.map _ _ hy).keep fun m hm => Below.heap_setCell w3 ⟨y.b, 1, none⟩ _ m (Ne.symm (htr.apart hy hy hm))) (.inl rfl)
  have hown : ∀ i, own (setF G' (Nm.pt t) (some ⟨y.b, y.mb, true⟩)) i → w.heap.size ≤ i := by
    intro i hi
    have h9 : own G' i := by
      rcases own_setF hi with ⟨z, hz, h9⟩ | hi
      · obtain rfl := Option.some.inj hz
        exact ⟨_, y, hy, h9⟩
      · exact hi
    rcases hn i h9 with h | h
    · exact h5 i h
    · exact Nat.le_trans h6.size h
  refine ⟨_, _, by omega, ht1, ⟨n', by rw [setF_other _ _ (Ne.symm (Nm.pt_ne t))]; exact e3, e4.trans e2⟩, ho.more (grown_leaf hG hy), hown, ?_⟩
  have hB : Below w.heap.size w w3 := h6.trans (hk.below h6.size fun i hi ho => by have := h5 i ho; omega)
  rw [hw]
  refine hB.setCell ?_ _
  rcases hn y.b ⟨_, y, hy, .inl rfl⟩ with h | h
  · exact h5 _ h
  · exact Nat.le_trans h6.size h
theorem Pat.congr {w W : World} {rb k : Nat} {T T' : List (List UInt8)} (h : Pat w W rb k T) (hT : ∀ t, t ∈ T ↔ t ∈ T') : Pat w W rb k T' := by
  obtain ⟨c, G, h1, h2, h3, h4, h5⟩ := h
  exact ⟨c, G, h1, h2, h3, h4.congr hT, h5⟩
theorem Pat.mono {w0 w W : World} {rb k : Nat} {T : List (List UInt8)} (h : Pat w W rb k T) (hb : Below w0.heap.size w0 w) : Pat w0 W rb k T := by
  obtain ⟨c, G, h1, h2, h3, h4, h5, h6⟩ := h
  exact ⟨c, G, h1, h2, h3, h4, fun i hi => Nat.le_trans hb.size (h5 i hi), hb.trans (h6.mono hb.size)⟩
theorem expErr_zero {s : List UInt8} {L : List (List UInt8)} (h : Gl.expErr s L = 0) : s.length ≤ 4096 ∧ Gl.bal 0 s = true ∧ L.length ≤ 512 := by
  unfold Gl.expErr at h
  by_cases h1 : 4096 < s.length ∨ Gl.bal 0 s = false
  · rw [if_pos h1] at h; cases h
  · rw [if_neg h1] at h
    by_cases h2 : 512 < L.length
    · rw [if_pos h2] at h; cases h
    · refine ⟨by omega, ?_, by omega⟩
      cases e : Gl.bal 0 s with
      | true => rfl
      | false => exact absurd (.inr e) h1
end Tr

set_option maxRecDepth 100000 in
set_option maxHeartbeats 1000000 in
theorem read_any (s : List UInt8) (L : List (List UInt8)) (hgr : Gl.bal 0 s = true → Gl.Gr false s L) (hl : s.length ≤ 4294967270) (w : World) (hm : Mx w) :
    Calls Tryz.prog 25 #[.string ⟨s.toArray⟩] w (Tr.ReadR w s L) := by
  have HEx := Lib.hid ((expand_any s L hgr hl w hm).mono fun e w' h => h.both)
  by_cases h0 : Gl.expErr s L = 0
  · obtain ⟨hs4, hbal, hL5⟩ := Tr.expErr_zero h0
    rw [h0] at HEx
    have hLt : ∀ t ∈ L, t.length ≤ 4096 := fun t ht => Nat.le_trans ((hgr hbal).len t ht) hs4
    have hre : Tr.readErr s L = if L.all Gl.partsOk = true then 0 else 8 := by unfold Tr.readErr; rw [if_neg (fun h => h h0)]
    have HRE := Lib.hid hre
    have HM : Hid (∀ W, Below w.heap.size w W → Mx W) := Lib.hid fun W h => hm.below h
    have HLt := Lib.hid hLt
    have HE2 : Hid (Calls Tryz.prog 39 #[.string ⟨s.toArray⟩] w fun e w' => ∃ v, e = .returned (.tuple #[v, .int .i64 0]) ∧ OwnS w.heap.size w' v L ∧ Below w.heap.size w w') := Lib.hid (by simpa using HEx.out)
    have hln : (L.length : Int) ≤ 512 := by omega
    clear HEx hre hLt hm hgr hbal h0
    go_enter Tryz.func25, Tryz.ntmps25
    go_wp2_with (go_at_call 39; go_must (refine HE2.out.mono ?_; rintro e w1 ⟨v, rfl, ho1, hb1⟩; obtain ⟨A, cap, rfl⟩ := ho1.slice))
    have HR : Hid (Rd w1 (fun _ => True) A (byS L)) := Lib.hid ((Rd.own ho1).mono fun _ _ _ => trivial)
    have H0 := Lib.hid (Tr.Pat.start (Below.refl w1.heap.size w1))
    have HB1 := Lib.hid hb1
    have HMk : Hid (∀ k, k < L.length → ∀ h : k < L.length, ∀ t, t ∈ L[k] :: L.take k ↔ t ∈ L.take (k + 1)) := Lib.hid fun k _ h t => by
      rw [List.take_succ_eq_append_getElem h, List.mem_append, List.mem_cons, List.mem_singleton]
      exact Or.comm
    clear ho1 HE2 hb1
    go_loopw [23] (fun i wr => ∃ k : Nat, k ≤ L.length ∧ i = .int .i64 k ∧ Hid (Tr.Pat w1 wr w1.heap.size k (L.take k)) ∧ Hid (∀ j (h : j < L.length), j < k → Gl.partsOk L[j] = true)) (fun i _ => L.length - (intOf i).toNat)
    case atStart => exact ⟨0, Nat.zero_le _, rfl, by rw [List.take_zero]; exact H0, Lib.hid fun _ _ h => absurd h (Nat.not_lt_zero _)⟩
    case round =>
      obtain ⟨k, hk, rfl, HP, HD⟩ := hrel
      have hk0 : (0 : Int) ≤ (k : Int) := by omega
      by_cases hlt : k < L.length
      · obtain ⟨c, G, h1, h2, h3, h4, h5, h6⟩ := HP.out
        obtain ⟨lb, lo, rfl, hlb, _, hx⟩ := HR.out.lit k (by rw [byS_len]; exact hlt)
        have ec := (h6.cell (p := ⟨lb, lo + k, none⟩) hlb).trans (hx k _ (byS_get L k hlt))
        have hkl : (k : Int) < (L.length : Int) := by omega
        have htl := HLt.out L[k] (List.getElem_mem hlt)
        have HGP := Lib.hid ((gParts_any L[k] (by omega) wr (HM.out wr (HB1.out.trans (h6.mono HB1.out.size)))).mono fun e w' h => h.both)
        have hmk := HMk.out k hlt hlt
        cases hp : Gl.partsOk L[k]
        · have hbad : (L.all Gl.partsOk) = false := by rw [List.all_eq_false]; exact ⟨L[k], List.getElem_mem hlt, by rw [hp]; simp⟩
          have hre8 : Tr.readErr s L = 8 := by rw [HRE.out, hbad]; rfl
          have HB6 := Lib.hid (HB1.out.trans (h6.mono HB1.out.size))
          have HRE8 := Lib.hid hre8
          rw [hp] at HGP
          simp only [Bool.false_eq_true, if_false] at HGP
          clear h1 h2 h3 h4 h5 h6 hx hmk hbad hre8 hp
          generalize L[k] = t at *
          go_wp2_with (go_at_call 40; go_must (refine HGP.out.mono ?_; rintro e w2 ⟨v, rfl, ho2, hb2⟩))
          ((try simp only [Exit.inBlock, Exit.then]); refine bodyPost_ret (results_tmp2 rfl _ _ _) rfl ?_)
          exact Tr.ReadR.no (HB6.out.trans (hb2.mono HB6.out.size)) HRE8.out (by decide)
        · have h20 : (Nm.pt L[k]).length ≤ 20 := by
            unfold Gl.partsOk at hp
            exact of_decide_eq_true (Bool.and_eq_true_iff.1 hp).1
          obtain ⟨n, hn, hnb⟩ := h3
          have HGr : Hid (∀ W g cap, Below wr.heap.size wr W → OwnS wr.heap.size W (.slice (some ⟨g, 0, none⟩) (Nm.pt L[k]).length cap) (Nm.pt L[k]) → Calls Tryz.prog 20 #[.pointer (some ⟨w1.heap.size, 0, none⟩), .slice (some ⟨g, 0, none⟩) (Nm.pt L[k]).length cap] W fun e w3 => ∃ yb, e = .returned (.pointer (some ⟨yb, 0, none⟩)) ∧ w3.frozen? ⟨yb, 1, none⟩ = false ∧ (∃ x, w3.cell? ⟨yb, 1, none⟩ = some x) ∧ ∀ w', w' = w3.setCell ⟨yb, 1, none⟩ (.bool true) → Tr.Pat w1 w' w1.heap.size (k + 1) (L.take (k + 1))) := Lib.hid fun W g cap hW ho => by
            have h7 := grow_any (F := G) (Nm.pt L[k]) [] n c g 0 cap W (h2.below hW) hn (Nm.pt_ne _) (fun x hx => by have := Nm.pt_part_len L[k] x hx; omega) (Tr.RowS.of_own ho) (fun hO => by
              have h8 : wr.heap.size ≤ g := (Tr.own_at ho rfl).1
              have h9 := h2.lt hO
              omega) (Tr.own_cap ho) (by omega)
            rw [hnb] at h7
            refine h7.mono fun e w3 hp => ?_
            obtain ⟨v, he, hg⟩ := hp
            obtain ⟨yb, hv, hf, hc, hst⟩ := Tr.Pat.step h1 h4 ⟨n, hn, hnb⟩ h5 (h6.trans (hW.mono h6.size)) h20 hg
            exact ⟨yb, by rw [he, hv], hf, hc, fun w' hw => (hst w' hw).congr hmk⟩
          have hpos : 0 < (Nm.pt L[k]).length := List.length_pos_iff.2 (Nm.pt_ne _)
          have HDn : Hid (∀ j (h : j < L.length), j < k + 1 → Gl.partsOk L[j] = true) := Lib.hid fun j h hj => by
            by_cases e : j = k
            · subst e; exact hp
            · exact HD.out j h (by omega)
          rw [hp] at HGP
          simp only [if_true] at HGP
          clear h1 h2 h4 h5 h6 hx hmk hp hn hnb h20 HD
          generalize Nm.pt L[k] = p at *
          generalize L[k] = t at *
          go_wp2_with first
            | (go_at_call 40; go_must (refine HGP.out.mono ?_; rintro e w2 ⟨v, rfl, ho2, hb2⟩; obtain ⟨g, cap2, rfl⟩ := OwnS.form ho2 hpos; have HG2 := Lib.hid (HGr.out w2 g cap2 hb2 ho2)))
            | (go_at_call 20; go_must (refine HG2.out.mono ?_; rintro e w3 ⟨yb, rfl, hf3, ⟨x3, hc3⟩, hst⟩; have HS3 := Lib.hid (hst _ rfl); clear hst))
          go_roundw
          case rel => exact ⟨k + 1, by omega, by go_num, HS3, HDn⟩
          case measure => simp [intOf]; omega
      · obtain rfl : k = L.length := by omega
        rw [List.take_length] at HP
        have hre0 : Tr.readErr s L = 0 := by
          rw [HRE.out, if_pos]
          exact List.all_eq_true.2 fun t ht => by obtain ⟨j, hj, rfl⟩ := List.getElem_of_mem ht; exact HD.out j hj hj
        have HRE0 := Lib.hid hre0
        clear hre0
        go_wp2
        ((try simp only [Exit.inBlock, Exit.then]); refine bodyPost_ret (results_tmp2 rfl _ _ _) rfl ?_)
        exact Tr.ReadR.yes HRE0.out (HP.out.mono HB1.out)
  · have hre : Tr.readErr s L = Gl.expErr s L := by unfold Tr.readErr; rw [if_pos h0]
    have HRE := Lib.hid hre
    have hne : (Gl.expErr s L == 0) = false := by simpa using h0
    have HN := Lib.hid h0
    clear hgr hm hre h0
    generalize Gl.expErr s L = er at *
    go_enter Tryz.func25, Tryz.ntmps25
    go_wp2_with (go_at_call 39; go_must (refine HEx.out.mono ?_; rintro e w1 ⟨v, rfl, ho1, hb1⟩))
    ((try simp only [Exit.inBlock, Exit.then]); refine bodyPost_ret (results_tmp2 rfl _ _ _) rfl ?_)
    exact Tr.ReadR.no hb1 HRE.out HN.out
end Go.Proofs.YtfmbbhcjnidcbaaGreatDoor

namespace Go.Proofs.YtfmbbhcjnidcbaaGreatDoor
open Go.RowKit
open Me

namespace Tr
/-- A node, as a pointer. -/
def pv (G : Ns) (x : Path) : Value := match G x with
  | some n => .pointer (some ⟨n.b, 0, none⟩)
  | none => .pointer none
theorem pv_of {G : Ns} {x : Path} {n : Nd} (h : G x = some n) : pv G x = .pointer (some ⟨n.b, 0, none⟩) := by unfold pv; rw [h]
/-- A row of nodes. -/
def pvs (G : Ns) (X : List Path) : List Value := X.map (pv G)
def OwnP (base : Nat) (w : World) (v : Value) (G : Ns) (X : List Path) : Prop := w.ownsRow base 51 1 v X.length (pvs G X)
/-- A row of choices: each a node, and the last part to it. -/
def cvs (G : Ns) (C : List (Path × List UInt8)) : List Value := C.flatMap fun p => [pv G (p.1 ++ [p.2]), .string ⟨p.2.toArray⟩]
def OwnC (base : Nat) (w : World) (v : Value) (G : Ns) (C : List (Path × List UInt8)) : Prop := w.ownsRow base 119 2 v C.length (cvs G C)
theorem pvs_len (G : Ns) (X : List Path) : (pvs G X).length = X.length := by unfold pvs; simp
theorem pvs_get (G : Ns) (X : List Path) (k : Nat) (h : k < X.length) : (pvs G X)[k]? = some (pv G X[k]) := by unfold pvs; simp [h]
theorem pvs_snoc (G : Ns) (X : List Path) (x : Path) : pvs G (X ++ [x]) = pvs G X ++ [pv G x] := by unfold pvs; simp
theorem cvs_len (G : Ns) (C : List (Path × List UInt8)) : (cvs G C).length = C.length * 2 := by
  unfold cvs
  induction C with
  | nil => rfl
  | cons a r ih => rw [List.flatMap_cons, List.length_append, ih, List.length_cons]; simp; omega
theorem cvs_snoc (G : Ns) (C : List (Path × List UInt8)) (x : Path) (a : List UInt8) : cvs G (C ++ [(x, a)]) = cvs G C ++ [pv G (x ++ [a]), .string ⟨a.toArray⟩] := by unfold cvs; simp
theorem cvs_get (G : Ns) : ∀ (C : List (Path × List UInt8)) (k : Nat) (h : k < C.length), (cvs G C)[k * 2]? = some (pv G (C[k].1 ++ [C[k].2])) ∧ (cvs G C)[k * 2 + 1]? = some (.string ⟨C[k].2.toArray⟩)
  | a :: r, 0, _ => ⟨rfl, rfl⟩
  | a :: r, k + 1, h => by
    obtain ⟨h1, h2⟩ := cvs_get G r k (by simpa using h)
    have e : cvs G (a :: r) = pv G (a.1 ++ [a.2]) :: .string ⟨a.2.toArray⟩ :: cvs G r := rfl
    refine ⟨?_, ?_⟩
    · rw [e, show (k + 1) * 2 = k * 2 + 1 + 1 by omega, List.getElem?_cons_succ, List.getElem?_cons_succ, h1]; rfl
    · rw [e, show (k + 1) * 2 + 1 = k * 2 + 1 + 1 + 1 by omega, List.getElem?_cons_succ, List.getElem?_cons_succ, h2]; rfl
/-- At one depth there are so many nodes, no more. -/
def Thin (G : Ns) (N : Nat) : Prop := ∀ (d : Nat) (P : List Path), P.Nodup → (∀ x ∈ P, x.length = d ∧ G x ≠ none) → P.length ≤ N
theorem Of.thin {G : Ns} {T : List (List UInt8)} (h : Of G T) : Thin G (T.length + 1) := by
  intro d P hn hP
  by_cases hd : d = 0
  · subst hd
    have h1 : P.length ≤ [([] : Path)].length := len_le_of_mem hn fun x hx => by rw [List.eq_nil_of_length_eq_zero (hP x hx).1]; simp
    simp at h1; omega
  · have e9 : (T.map fun t => (Nm.pt t).take d).length = T.length := List.length_map _
    have h1 : P.length ≤ (T.map fun t => (Nm.pt t).take d).length := len_le_of_mem hn fun x hx => by
      obtain ⟨h2, h3⟩ := hP x hx
      obtain ⟨t, ht, r, hr⟩ := h.live x (by rintro rfl; exact hd h2.symm) h3
      exact List.mem_map.2 ⟨t, ht, by rw [← hr, ← h2, List.take_left]⟩
    omega
/-- The choices of these nodes. -/
structure Wild (G : Ns) (X : List Path) (C : List (Path × List UInt8)) : Prop where
  nodup : C.Nodup
  mem : ∀ x a, (x, a) ∈ C ↔ x ∈ X ∧ G (x ++ [a]) ≠ none ∧ Gl.plainB a = false
/-- .. under way: of the first nodes all, of the next one those that have come. -/
structure WildAt (G : Ns) (X : List Path) (i : Nat) (x0 : Path) (left : List UInt8 → Bool) (C : List (Path × List UInt8)) : Prop where
  nodup : C.Nodup
  mem : ∀ x a, (x, a) ∈ C ↔ (x ∈ X.take i ∨ (x = x0 ∧ left a = false)) ∧ G (x ++ [a]) ≠ none ∧ Gl.plainB a = false
theorem WildAt.start {G : Ns} {X : List Path} {i : Nat} (hi : i < X.length) {C : List (Path × List UInt8)} (h : Wild G (X.take i) C) {left : List UInt8 → Bool} (hl : ∀ a, left a = (((G (X[i] ++ [a])).map (·.b)).isSome)) : WildAt G X i X[i] left C := by
  refine ⟨h.nodup, fun x a => ?_⟩
  rw [h.mem]
  refine ⟨fun ⟨h1, h2⟩ => ⟨.inl h1, h2⟩, ?_⟩
  rintro ⟨h1 | ⟨rfl, h1⟩, h2, h3⟩
  · exact ⟨h1, h2, h3⟩
  · rw [hl] at h1
    cases e : G (X[i] ++ [a]) with
    | none => exact absurd e h2
    | some n => rw [e] at h1; cases h1
theorem not_mem_take {X : List Path} (hX : X.Nodup) {i : Nat} (hi : i < X.length) : X[i] ∉ X.take i := by
  intro h
  obtain ⟨j, hj, e⟩ := List.getElem_of_mem h
  rw [List.length_take] at hj
  rw [List.getElem_take] at e
  exact List.pairwise_iff_getElem.1 hX j i (by omega) hi (by omega) e
theorem WildAt.skip {G : Ns} {X : List Path} {i : Nat} {x0 : Path} {left : List UInt8 → Bool} {C : List (Path × List UInt8)} (h : WildAt G X i x0 left C) {k : List UInt8} (hp : Gl.plainB k = true) : WildAt G X i x0 (fun n => left n && !decide (n = k)) C := by
  refine ⟨h.nodup, fun x a => ?_⟩
  rw [h.mem]
  by_cases e : a = k
  · subst e; rw [hp]; simp
  · simp [e]
theorem WildAt.push {G : Ns} {X : List Path} (hX : X.Nodup) {i : Nat} (hi : i < X.length) {left : List UInt8 → Bool} {C : List (Path × List UInt8)} (h : WildAt G X i X[i] left C) {k : List UInt8} (hp : Gl.plainB k = false) (hk : left k = true) (hf : G (X[i] ++ [k]) ≠ none) : WildAt G X i X[i] (fun n => left n && !decide (n = k)) (C ++ [(X[i], k)]) := by
  have hnew : (X[i], k) ∉ C := fun hm => by
    rcases ((h.mem _ _).1 hm).1 with h1 | ⟨_, h1⟩
    · exact not_mem_take hX hi h1
    · rw [hk] at h1; cases h1
  refine ⟨List.nodup_append.2 ⟨h.nodup, by simp, fun a ha b hb e => by rw [List.mem_singleton] at hb; subst e; subst hb; exact hnew ha⟩, fun x a => ?_⟩
  rw [List.mem_append, h.mem, List.mem_singleton, Prod.mk.injEq]
  constructor
  · rintro (⟨h1 | ⟨rfl, h1⟩, h2⟩ | ⟨rfl, rfl⟩)
    · exact ⟨.inl h1, h2⟩
    · exact ⟨.inr ⟨rfl, by rw [h1]; rfl⟩, h2⟩
    · exact ⟨.inr ⟨rfl, by simp⟩, hf, hp⟩
  · rintro ⟨h1 | ⟨rfl, h1⟩, h2⟩
    · exact .inl ⟨.inl h1, h2⟩
    · by_cases e : a = k
      · exact .inr ⟨rfl, e⟩
      · refine .inl ⟨.inr ⟨rfl, ?_⟩, h2⟩
        simpa [e] using h1
theorem WildAt.done {G : Ns} {X : List Path} {i : Nat} (hi : i < X.length) {left : List UInt8 → Bool} {C : List (Path × List UInt8)} (h : WildAt G X i X[i] left C) (hl : ∀ a, left a = false) : Wild G (X.take (i + 1)) C := by
  refine ⟨h.nodup, fun x a => ?_⟩
  rw [h.mem, List.take_succ_eq_append_getElem hi, List.mem_append, List.mem_singleton]
  constructor
  · rintro ⟨h1 | ⟨h1, _⟩, h2⟩
    · exact ⟨.inl h1, h2⟩
    · exact ⟨.inr h1, h2⟩
  · rintro ⟨h1 | h1, h2⟩
    · exact ⟨.inl h1, h2⟩
    · exact ⟨.inr ⟨h1, hl a⟩, h2⟩
/-- How many. -/
theorem pairs_le {G : Ns} {N : Nat} (hN : Thin G N) {d : Nat} {C : List (Path × List UInt8)} (hn : C.Nodup) (hC : ∀ x a, (x, a) ∈ C → x.length = d ∧ G (x ++ [a]) ≠ none) : C.length ≤ N := by
  have h1 := hN (d + 1) (C.map fun p => p.1 ++ [p.2]) ?_ ?_
  · rwa [List.length_map] at h1
  · refine List.pairwise_map.2 (hn.imp fun {p q} h e => h ?_)
    obtain ⟨h1, h2⟩ := snoc_inj e
    exact Prod.ext h1 h2
  · intro y hy
    obtain ⟨⟨x, a⟩, hp, rfl⟩ := List.mem_map.1 hy
    obtain ⟨h1, h2⟩ := hC x a hp
    exact ⟨by simp [h1], h2⟩
theorem choiceinfo : (Tryz.prog.info? 119).map (fun i => (i.zero, i.size, i.bytes)) = some (some (.agg #[.pointer none, .string ⟨#[]⟩]), 2, 24) := by kernel_rfl
theorem branchinfo : (Tryz.prog.info? 51).map (fun i => (i.zero, i.size, i.bytes)) = some (some (.pointer none), 1, 8) := by kernel_rfl
end Tr
end Go.Proofs.YtfmbbhcjnidcbaaGreatDoor
