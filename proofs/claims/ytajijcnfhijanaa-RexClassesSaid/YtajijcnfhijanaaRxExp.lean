/-
  CONTRACTS: chapter 11: an expression.
-/
import Derived.Test.YtajijcnfhijanaaRxBra
namespace Go.Proofs.Ytajijcnfhijanaa
open Go.RowKit
open Me

theorem codeinfo : (Try.prog.info? 45).map (fun i => (i.zero, i.size, i.bytes)) = some (some (.slice none 0 0), 1, 24) := by kernel_rfl

namespace Rx
/-- An expression under way: the branches read so far. -/
structure ExW (w W : World) (b : Nat) (l : List UInt8) (g d : Nat) (v : Value) (vs : List Value) (bs : List (List In)) : Prop where
  took : Took w b l g d W
  own : W.ownsRow w.heap.size 45 1 v vs.length vs
  len : vs.length = bs.length
  codes : ∀ (j : Nat) (c : List In), bs[j]? = some c → ∃ (A : Option Addr) (k : Nat), vs[j]? = some (Value.slice A c.length k) ∧ Rd W (fun i => w.heap.size ≤ i ∧ v.ownBlock ≠ some i) A (cellsI c)
  lt : b < w.heap.size
theorem ExW.start {w : World} {b g d : Nat} {l : List UInt8} (h : PsAt w b l g d) : ExW w w b l g d (.slice none 0 0) [] [] :=
  ⟨Took.refl h, ⟨rfl, .inl ⟨rfl, rfl⟩⟩, rfl, fun j c h => by simp at h, h.lt⟩
theorem ExW.took_ {w W W' : World} {b g d g2 d2 : Nat} {l m : List UInt8} {v : Value} {vs : List Value} {bs : List (List In)} (h : ExW w W b l g d v vs bs) (k : Took W b m g2 d2 W') : ExW w W' b m g2 d2 v vs bs := by
  have hl := h.lt
  refine ⟨h.took.trans k, owns_keep h.own fun i hi => k.kp.block i (World.ownsRow.lt h.own i hi).2 (by have := (World.ownsRow.lt h.own i hi).1; omega), h.len, fun j c hj => ?_, hl⟩
  obtain ⟨A, n, h1, h2⟩ := h.codes j c hj
  exact ⟨A, n, h1, h2.kp k.kp fun i _ hi e => by have := hi.1; omega⟩
theorem ExW.left {w W : World} {b g d : Nat} {l : List UInt8} {v : Value} {vs : List Value} {bs : List (List In)} (h : ExW w W b l g d v vs bs) : Rx.left W b = l.length := by
  unfold Rx.left
  rw [h.took.at_.c0]
  show l.toArray.size = _
  simp
theorem ExW.push {w W W1 W' : World} {b g d base k : Nat} {l : List UInt8} {v v' : Value} {A : Option Addr} {vs : List Value} {bs : List (List In)} {x : List In} (h : ExW w W b l g d v vs bs)
    (hx : RdC W base (.slice A x.length k) x) (hb : w.heap.size ≤ base) (hne : ∀ i, base ≤ i → v.ownBlock ≠ some i) (hW : Below W.heap.size W W1)
    (ho : W'.ownsRow w.heap.size 45 1 v' (vs.length + 1) (vs ++ [.slice A x.length k])) (hg : W1.grownBy W' v.ownBlock) (hat : v'.ownBlock = v.ownBlock ∨ v'.ownBlock = some W1.heap.size) :
    ExW w W' b l g d v' (vs ++ [.slice A x.length k]) (bs ++ [x]) := by
  have hl := h.lt
  have hkp : Kp (fun i => v.ownBlock = some i) W W' := (Kp.of_below hW).grown hg fun i hi => .inr hi
  have hOw : ∀ i, v.ownBlock = some i → w.heap.size ≤ i := fun i hi => (World.ownsRow.lt h.own i hi).1
  have hrd : ∀ {B : Option Addr} {xs : List Value}, Rd W (fun i => w.heap.size ≤ i ∧ v.ownBlock ≠ some i) B xs → Rd W' (fun i => w.heap.size ≤ i ∧ v'.ownBlock ≠ some i) B xs := by
    intro B xs hr
    intro hn
    obtain ⟨ad, e1, e2, e3, e4⟩ := (hr.kp hkp fun i _ hi e => hi.2 e) hn
    obtain ⟨ad0, f1, f2, _, _⟩ := hr hn
    have : ad = ad0 := by rw [e1] at f1; exact Option.some.inj f1
    subst this
    refine ⟨ad, e1, e2, ⟨e3.1, ?_⟩, e4⟩
    rcases hat with e | e
    · rw [e]; exact e3.2
    · rw [e]; intro e5; have := Option.some.inj e5; have := hW.size; omega
  refine ⟨⟨(hkp.block b h.took.at_.lt (fun e => by have := hOw b e; omega)).trans h.took.at_, h.took.kp.trans hkp fun i hi e => by have := hOw i e; omega⟩, by rw [List.length_append]; exact ho, by rw [List.length_append, List.length_append, h.len]; rfl, ?_, hl⟩
  intro j c hj
  by_cases hlt : j < bs.length
  · rw [List.getElem?_append_left hlt] at hj
    obtain ⟨B, n, h1, h2⟩ := h.codes j c hj
    exact ⟨B, n, by rw [List.getElem?_append_left (by rw [h.len]; exact hlt)]; exact h1, hrd h2⟩
  · have hj2 : j = bs.length := by
      have := (List.getElem?_eq_some_iff.1 hj).1
      rw [List.length_append, List.length_singleton] at this
      omega
    subst hj2
    rw [List.getElem?_append_right (Nat.le_refl _), Nat.sub_self] at hj
    cases hj
    refine ⟨A, k, by rw [List.getElem?_append_right (by rw [h.len]; exact Nat.le_refl _), h.len, Nat.sub_self]; rfl, hrd ?_⟩
    obtain ⟨A2, k2, e, hr⟩ := hx
    cases e
    exact hr.mono fun i _ hi => ⟨Nat.le_trans hb hi, hne i hi⟩
theorem ExW.brs {w W : World} {b g d : Nat} {l : List UInt8} {v : Value} {vs : List Value} {bs : List (List In)} (h : ExW w W b l g d v vs bs) (h0 : 0 < bs.length) : ∃ q cp, v = .slice (some ⟨q, 0, none⟩) bs.length cp ∧ BrsAt W q 0 bs ∧ bs.length ≤ cp := by
  have hlen := h.len
  rcases h.own.2 with ⟨_, h1⟩ | ⟨q, cap, cur, hv, hb, hg, hnc, hcm, hcs, ht⟩
  · omega
  · refine ⟨q, cap, by rw [← hlen]; exact hv, ⟨(Array.getElem?_eq_some_iff.1 hg).1, fun j c hj => ?_⟩, by omega⟩
    obtain ⟨A, n, h1, h2⟩ := h.codes j c hj
    refine ⟨A, n, ?_, A, n, rfl, h2.mono fun _ _ _ => Nat.zero_le _⟩
    rw [Nat.zero_add, cell_of_row W q j cur _ (0, 0) hg, ← h1, ← ht, List.getElem?_take, if_pos (by have := (List.getElem?_eq_some_iff.1 hj).1; omega)]
    simp
end Rx

set_option maxHeartbeats 8000000 in
theorem ways_of {n : Nat} {E : List UInt8 → Nat → Nat → Rx.Res} (hE : Rx.ExprC n E) (hS : Rx.Short E) {w : World} {b g d : Nat} {s : List UInt8} (h : Rx.PsAt w b s g d) (hs : s.length ≤ n) (hg : g + s.length ≤ 8192) (hd : d ≤ 64) :
    Calls Try.prog 12 #[.pointer (some ⟨b, 0, none⟩)] w (Rx.Parsed w b d (Rx.waysE E (s.length + 1) [] s g d)) := by
  obtain ⟨i0, hi0, hz0, hz1, hz2⟩ := info_parts codeinfo
  have HI := Lib.hid hi0
  have HZ := Lib.hid (And.intro hz0 (And.intro hz1 hz2))
  clear hi0 hz0 hz1 hz2
  have HS0 := Lib.hid (Rx.ExW.start h)
  have HR0 : Hid (∃ m, s.length < m ∧ Rx.waysE E m [] s g d = Rx.waysE E (s.length + 1) [] s g d) := Lib.hid ⟨_, Nat.lt_succ_self _, rfl⟩
  have hbl := h.lt
  have HBr : Hid (∀ (t : List UInt8) (g2 : Nat) (W : World), Rx.PsAt W b t g2 d → t.length ≤ n → g2 + t.length ≤ 8192 → Calls Try.prog 19 #[.pointer (some ⟨b, 0, none⟩)] W (Rx.Parsed W b d (Rx.branchE E (t.length + 1) [] t g2 d))) := Lib.hid fun t g2 W h h1 h2 => branch_of hE hS h h1 h2 hd
  have HSh := Lib.hid hS
  have hs16 : s.length ≤ 8192 := by omega
  generalize Rx.waysE E (s.length + 1) [] s g d = R at *
  clear h hE hS
  go_enter Try.func12, Try.ntmps12
  go_wp2_with fail
  go_loopw [4, 5, 6] (fun v _ _ wr => ∃ (m : List UInt8) (g2 : Nat) (vs : List Value) (bs : List (List Rx.In)), m.length ≤ n ∧ Hid (∃ k, m.length < k ∧ Rx.waysE E k bs m g2 d = R) ∧ Hid (g2 + m.length ≤ 8192 ∧ Rx.tot bs + 2 * m.length ≤ 16384 ∧ 2 * bs.length ≤ Rx.tot bs) ∧ Hid (Rx.ExW w wr b m g2 d v vs bs)) (fun _ _ _ wr => Rx.left wr b)
  case atStart => exact ⟨s, g, [], [], hs, HR0, Lib.hid ⟨hg, by simp [Rx.tot]; omega, by simp [Rx.tot]⟩, HS0⟩
  case round =>
    obtain ⟨m, g2, vs, bs, hm, HK, HB, HS⟩ := hrel
    obtain ⟨k, HKR⟩ : ∃ k, Hid (m.length < k + 1 ∧ Rx.waysE E (k + 1) bs m g2 d = R) := by
      obtain ⟨k, h1, h2⟩ := HK.out
      obtain ⟨j, rfl⟩ : ∃ j, k = j + 1 := ⟨k - 1, by omega⟩
      exact ⟨j, Lib.hid ⟨h1, h2⟩⟩
    clear HK
    have HMS := Lib.hid HS.out.left
    obtain ⟨Av, nv, cv, rfl⟩ := own_slice HS.out.own
    have HPc := Lib.hid (HBr.out m g2 _ HS.out.took.at_ hm HB.out.1)
    have HQ : Hid ((match Rx.branchE E (m.length + 1) [] m g2 d with
      | .error e => .error e
      | .ok (x, r, g3) => if Rx.starts 124 r then Rx.waysE E k (bs ++ [x]) (r.drop 1) g3 d else .ok (Rx.choice (bs ++ [x]), r, g3)) = R) := Lib.hid (by rw [← HKR.out.2]; rfl)
    cases hq : Rx.branchE E (m.length + 1) [] m g2 d with
    | error er =>
      rw [hq] at HQ
      have HQ2 : Hid (.error er = R) := HQ
      have HR := Lib.hid hq
      clear hq HQ
      go_wp2_with (go_at_call 19; go_must (refine (HPc.out).mono ?_; rintro e w2 hq; rw [HR.out] at hq; obtain ⟨h0, rfl, hk⟩ := hq.bad; have HKp := Lib.hid (HS.out.took.kp.trans hk fun _ _ h => h); clear hk hq))
      ((try simp only [Exit.inBlock, Exit.then]); refine bodyPost_ret (results_tmp2 rfl _ _ _) rfl ?_)
      rw [← HQ2.out]
      exact Rx.Parsed.err HKp.out h0
    | ok y =>
      obtain ⟨x, r, g3⟩ := y
      rw [hq] at HQ
      have HQ : Hid ((if Rx.starts 124 r = true then Rx.waysE E k (bs ++ [x]) (r.drop 1) g3 d else .ok (Rx.choice (bs ++ [x]), r, g3)) = R) := HQ
      have HR := Lib.hid hq
      have HLn := Lib.hid (Rx.branchE_len HSh.out _ hq)
      have HVs : Hid (vs.length ≤ 8192) := Lib.hid (by have := HB.out.2; have := HS.out.len; omega)
      have hvs := HVs.out
      clear hq
      have hws := HS.out.took.size
      cases hs : Rx.starts 124 r
      · have HN := Lib.hid hs
        rw [hs] at HQ
        have HQ2 : Hid (.ok (Rx.choice (bs ++ [x]), r, g3) = R) := HQ
        have HCl : Hid ((Rx.choice (bs ++ [x])).length ≤ 1048576) := Lib.hid (by rw [Rx.choice_len]; have := HLn.out.1; have := HB.out.2; simp at *; omega)
        have HBl : Hid (bs.length ≤ 1048576) := Lib.hid (by have := HB.out.2; omega)
        clear hs HQ
        go_wp2_with first
          | (go_at_call 19; go_must (refine (HPc.out).mono ?_; rintro e w2 hq; rw [HR.out] at hq; obtain ⟨vx, rfl, hv, ht⟩ := hq.got; have HV := Lib.hid hv; have HS2 := Lib.hid (HS.out.took_ ht); have hsz2 := ht.size; obtain ⟨Ax, kx, rfl, _⟩ := hv; clear ht hq))
          | (at_builtin; refine wpList_app _ rfl (.tmp 15) (.tmp 17) 58 rfl w.heap.size 45 i0 (.slice none 0 0) 1 24 Try.underlying58 HI.out HZ.out.1 HZ.out.2.1 HZ.out.2.2 rfl (by decide) (.slice Av nv cv) vs.length vs rfl (HS2.out.own.alloc _) (fun i => i = w2.heap.size) (some ⟨w2.heap.size, 0, none⟩) 1 1 [.slice Ax x.length kx] rfl rfl (Rd.fresh _ _ _ _ rfl) (by intro u hu; simp at hu; subst hu; rfl) (by unfold maxLen; omega) (by omega) (by simp; omega) ?_; intro v3 w3 hown3 hg3 hat3 hnil3; have HS3 := Lib.hid (HS2.out.push HV.out HS.out.took.size (fun i hi e => by have := (World.ownsRow.lt HS.out.own i e).2; omega) ((Below.refl _ _).alloc (Nat.le_refl _) _) hown3 hg3 hat3); clear hown3 hg3 hat3 hnil3; obtain ⟨A3, n3, c3, rfl⟩ := own_slice HS3.out.own)
          | (go_at_call 20; go_must (refine (takes_no HS3.out.took.at_ HN.out).mono ?_; rintro e w4 ⟨rfl, ht⟩; have HS4 := Lib.hid (HS3.out.took_ ht); clear ht; obtain ⟨q, cp, hv4, hb4, hc4⟩ := HS4.out.brs (by simp); cases hv4; have HB4 := Lib.hid hb4; have HC4 := Lib.hid hc4; clear hb4 hc4; rw [show (bs ++ [x]).length = bs.length + 1 by simp]))
          | (go_at_call 21; go_must (refine (choice_any HB4.out (by simp) HC4.out HBl.out HCl.out).mono ?_; rintro e w5 ⟨v5, rfl, ho, hb⟩; have HO5 := Lib.hid ho; have HT5 := Lib.hid (HS4.out.took.on hb); clear ho hb))
        ((try simp only [Exit.inBlock, Exit.then]); refine bodyPost_ret (results_tmp2 rfl _ _ _) rfl ?_)
        rw [← HQ2.out]
        exact Rx.Parsed.ok HT5.out HO5.out.rd HS4.out.took.size
      · have HN := Lib.hid hs
        rw [hs] at HQ
        obtain ⟨r1, Hr1⟩ : ∃ r1, Hid (r.drop 1 = r1) := ⟨_, Lib.hid rfl⟩
        have HQ2 : Hid (Rx.waysE E k (bs ++ [x]) r1 g3 d = R) := Lib.hid (by rw [← Hr1.out]; exact HQ.out)
        have Hr2 : Hid (r1.length + 1 = r.length) := Lib.hid (by rw [← Hr1.out]; exact Rx.starts_drop hs)
        clear hs HQ
        go_wp2_with first
          | (go_at_call 19; go_must (refine (HPc.out).mono ?_; rintro e w2 hq; rw [HR.out] at hq; obtain ⟨vx, rfl, hv, ht⟩ := hq.got; have HV := Lib.hid hv; have HS2 := Lib.hid (HS.out.took_ ht); have hsz2 := ht.size; obtain ⟨Ax, kx, rfl, _⟩ := hv; clear ht hq))
          | (at_builtin; refine wpList_app _ rfl (.tmp 15) (.tmp 17) 58 rfl w.heap.size 45 i0 (.slice none 0 0) 1 24 Try.underlying58 HI.out HZ.out.1 HZ.out.2.1 HZ.out.2.2 rfl (by decide) (.slice Av nv cv) vs.length vs rfl (HS2.out.own.alloc _) (fun i => i = w2.heap.size) (some ⟨w2.heap.size, 0, none⟩) 1 1 [.slice Ax x.length kx] rfl rfl (Rd.fresh _ _ _ _ rfl) (by intro u hu; simp at hu; subst hu; rfl) (by unfold maxLen; omega) (by omega) (by simp; omega) ?_; intro v3 w3 hown3 hg3 hat3 hnil3; have HS3 := Lib.hid (HS2.out.push HV.out HS.out.took.size (fun i hi e => by have := (World.ownsRow.lt HS.out.own i e).2; omega) ((Below.refl _ _).alloc (Nat.le_refl _) _) hown3 hg3 hat3); clear hown3 hg3 hat3 hnil3; obtain ⟨A3, n3, c3, rfl⟩ := own_slice HS3.out.own)
          | (go_at_call 20; go_must (refine (takes_yes HS3.out.took.at_ HN.out Hr1.out).mono ?_; rintro e w4 ⟨rfl, ht⟩; have HS4 := Lib.hid (HS3.out.took_ ht); clear ht))
        go_roundw
        case rel => exact ⟨r1, g3, _, _, by have := HLn.out.1; have := Hr2.out; simp at *; omega, Lib.hid ⟨k, by have := HLn.out.1; have := Hr2.out; have := HKR.out.1; simp at *; omega, HQ2.out⟩, Lib.hid ⟨by have := HLn.out.2; have := Hr2.out; have := HB.out.1; omega, by rw [Rx.tot_snoc]; have := HLn.out.1; have := Hr2.out; have := HB.out.2; simp at *; omega, by rw [Rx.tot_snoc, List.length_append]; have := HB.out.2; simp; omega⟩, HS4⟩
        case measure => rw [HMS.out, HS4.out.left]; have := HLn.out.1; have := Hr2.out; simp at *; omega

theorem expr_any : ∀ n, Rx.ExprC n (Rx.expr n)
  | 0 => fun s g d w b _ hs => absurd hs (Nat.not_lt_zero _)
  | n + 1 => fun s g d w b h hs hg hd => ways_of (expr_any n) (Rx.expr_len n) h (by omega) hg hd
end Go.Proofs.Ytajijcnfhijanaa
