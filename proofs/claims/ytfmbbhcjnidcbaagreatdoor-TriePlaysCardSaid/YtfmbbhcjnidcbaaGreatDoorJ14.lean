/-
  NmRef2: CONTRACTS: chapter 8's own answers (ref8): Is, Join, turn, File, Of, Node.
  TrRHit: CONTRACTS: chapter 10, the document's side: hit.
-/
import Derived.Test.YtfmbbhcjnidcbaaGreatDoorJ8
import Derived.RegionTactic
import Derived.Lib.BufferMore
import Derived.Lib.ConvBytes
import Derived.Test.YtfmbbhcjnidcbaaGreatDoorJ13
import Derived.Laws.ResultCell

namespace Go.Proofs.YtfmbbhcjnidcbaaGreatDoor
open Go.RowKit
open Me


theorem OwnS.form {base : Nat} {w : World} {v : Value} {l : List (List UInt8)} (h : OwnS base w v l) (hl : 0 < l.length) : ∃ g c, v = .slice (some ⟨g, 0, none⟩) l.length c := by
  rcases h.2 with ⟨_, h0⟩ | ⟨g', cap, cur, rfl, _⟩
  · omega
  · exact ⟨_, _, rfl⟩
theorem Nm.is_nil : Nm.is [] = false := by decide

set_option maxHeartbeats 2000000 in
theorem refIs_any (s : List UInt8) (hl : s.length ≤ 4294967270) (w : World) :
    Calls Tryz.prog 22 #[.string ⟨s.toArray⟩] w fun e w' => e = .returned (.bool (Nm.is s)) ∧ Below w.heap.size w w' := by
  have hs : (⟨s.toArray⟩ : ByteArray).size = s.length := by show s.toArray.size = _; simp
  by_cases h0 : s.length < 1
  · have h0' : (s.length : Int) < 1 := by omega
    have HQ : Hid (Nm.is s = false) := Lib.hid (by rw [List.eq_nil_of_length_eq_zero (show s.length = 0 by omega)]; exact Nm.is_nil)
    generalize Nm.is s = R at *
    clear h0
    go_enter Tryz.func22, Tryz.ntmps22
    go_wp2_with fail
    go_ret
    exact ⟨Nm.ret_bool HQ.out.symm, Below.refl _ _⟩
  · have h0' : ¬ (s.length : Int) < 1 := by omega
    by_cases h2 : 200 < s.length
    · have h2' : (200 : Int) < (s.length : Int) := by omega
      have HQ := Lib.hid (Nm.is_long h2)
      generalize Nm.is s = R at *
      clear h0 h2
      go_enter Tryz.func22, Tryz.ntmps22
      go_wp2_with fail
      go_ret
      exact ⟨Nm.ret_bool HQ.out.symm, Below.refl _ _⟩
    · have h2' : ¬ (200 : Int) < (s.length : Int) := by omega
      have H1 := Lib.hid (refParts_any s hl w)
      have HG := Lib.hid (@Nm.is_good s (by omega))
      have HBd := Lib.hid (fun k (h : k < (Nm.pt s).length) (hc : Nm.okP (Nm.pt s)[k] = false) => Nm.is_bad h hc)
      have HL := Lib.hid (fun k (h : k < (Nm.pt s).length) => Nat.le_trans (Nm.pt_part_len s _ (List.getElem_mem h)) hl)
      have hLn : ((Nm.pt s).length : Int) ≤ 4294967281 := by have := Nm.pt_len s; omega
      have hpos : 0 < (Nm.pt s).length := List.length_pos_iff.2 (Nm.pt_ne s)
      clear h0 h2
      generalize Nm.is s = R at *
      generalize Nm.pt s = L at *
      go_enter Tryz.func22, Tryz.ntmps22
      go_wp2_with (go_at_call 37; go_must (refine (H1.out).mono ?_; rintro e w1 ⟨v, rfl, ho, hb⟩; obtain ⟨g, c, rfl⟩ := ho.form hpos))
      have HO := Lib.hid ho
      have HB := Lib.hid hb
      have hlt1 := ho.lt.2
      clear ho hb
      go_loop [4] (fun i => ∃ k : Nat, k ≤ L.length ∧ i = .int .i64 k ∧ Hid (∀ j (h : j < L.length), j < k → Nm.okP L[j] = true)) (fun i => L.length - (intOf i).toNat)
      case atStart => exact ⟨0, Nat.zero_le _, rfl, Lib.hid fun j _ h => absurd h (by omega)⟩
      case round =>
        obtain ⟨k, hk, rfl, HD⟩ := hrel
        by_cases hlt : k < L.length
        · have ec := HO.out.cell k hlt
          have hkl : (k : Int) < (L.length : Int) := by omega
          have hk0 : (0 : Int) ≤ (k : Int) := by omega
          have HC0 := Lib.hid (HBd.out k hlt)
          have HDn : Hid (Nm.okP L[k] = true → ∀ j (h : j < L.length), j < k + 1 → Nm.okP L[j] = true) := Lib.hid fun hc j h hj => by
            by_cases e : j = k
            · subst e; exact hc
            · exact HD.out j h (by omega)
          have hpl := HL.out k hlt
          generalize L[k] = p at *
          have hps : (⟨p.toArray⟩ : ByteArray).size = p.length := by show p.toArray.size = _; simp
          by_cases hp0 : p = []
          · have HC := Lib.hid (HC0.out (by rw [hp0]; rfl))
            subst hp0
            go_wp2_with fail
            go_ret
            exact ⟨Nm.ret_bool HC.out.symm, HB.out⟩
          · have hpe : (p == []) = false := by simpa using hp0
            go_wp2_with fail
            go_loop [5] (fun i => ∃ q : Nat, q ≤ p.length ∧ i = .int .i64 q ∧ Hid ((p.take q).all Nm.okB = true)) (fun i => p.length - (intOf i).toNat)
            case atStart => exact ⟨0, Nat.zero_le _, rfl, Lib.hid rfl⟩
            case round =>
              obtain ⟨q, hq, rfl, HQ⟩ := hrel
              by_cases hqt : q < p.length
              · have hn := Lib.hid (Nm.all_take p q hqt)
                have hql : (q : Int) < (p.length : Int) := by omega
                have hq0 : (0 : Int) ≤ (q : Int) := by omega
                have hx : (⟨p.toArray⟩ : ByteArray)[q]'hqt = p[q] := rfl
                cases hc : Nm.okB p[q]
                · have HCf := Lib.hid (HC0.out (Nm.okP_bad (Nm.all_false hqt hc)))
                  have HDg : Hid (∀ W, Calls Tryz.prog 38 #[.int .u8 ((⟨p.toArray⟩ : ByteArray)[q]'hqt).toNat] W fun e w' => e = .returned (.bool false) ∧ w' = W) := Lib.hid fun W => by
                    have := refByte_any p[q] W
                    rw [hc] at this
                    exact this
                  clear hx hc
                  go_wp2_with (go_at_call 38; go_must (refine (HDg.out _).mono ?_; rintro e w' ⟨rfl, rfl⟩))
                  go_ret
                  exact ⟨Nm.ret_bool HCf.out.symm, HB.out⟩
                · have HDg : Hid (∀ W, Calls Tryz.prog 38 #[.int .u8 ((⟨p.toArray⟩ : ByteArray)[q]'hqt).toNat] W fun e w' => e = .returned (.bool true) ∧ w' = W) := Lib.hid fun W => by
                    have := refByte_any p[q] W
                    rw [hc] at this
                    exact this
                  have hn2 : Hid ((p.take (q + 1)).all Nm.okB = true) := Lib.hid (by rw [hn.out, HQ.out, hc]; rfl)
                  clear hx hc
                  go_wp2_with (go_at_call 38; go_must (refine (HDg.out _).mono ?_; rintro e w' ⟨rfl, rfl⟩))
                  go_round
                  case rel => exact ⟨q + 1, by omega, by go_num, hn2⟩
                  case measure => simp [intOf]; omega
              · obtain rfl : q = p.length := by omega
                rw [List.take_length] at HQ
                have HE := Lib.hid (HDn.out (by rw [Nm.okP_good HQ.out]; cases p with
                  | nil => exact absurd rfl hp0
                  | cons a b => rfl))
                go_wp2_with fail
                go_round
                case rel => exact ⟨k + 1, by omega, by go_num, HE⟩
                case measure => simp [intOf]; omega
        · obtain rfl : k = L.length := by omega
          have HE : Hid (R = decide ((L.length : Int) ≤ 20)) := Lib.hid (by rw [HG.out fun j h => HD.out j h h]; congr 1; apply propext; omega)
          go_wp2
          go_ret
          exact ⟨Nm.ret_bool HE.out.symm, HB.out⟩

theorem catB (a b : List UInt8) : (⟨a.toArray⟩ : ByteArray) ++ ⟨b.toArray⟩ = ⟨(a ++ b).toArray⟩ := by
  apply ByteArray.ext
  rw [ByteArray.data_append]
  simp

set_option maxHeartbeats 1000000 in
theorem refJoin_any (l : List (List UInt8)) (A : Option Addr) (c : Nat) (w : World) (h : Rd w (fun _ => True) A (byS l)) (hj : (Nm.jn l).length ≤ 4294967280) (hn : l.length ≤ 4294967280) :
    Calls Tryz.prog 55 #[.slice A l.length c] w fun e w' => e = .returned (.string ⟨(Nm.jn l).toArray⟩) ∧ w' = w := by
  have HR := Lib.hid h
  have HJ := Lib.hid (fun k (h : k < l.length) => Nm.jn_take l k h)
  have HJL := Lib.hid (fun k (h : k ≤ l.length) => Nat.le_trans (Nm.jn_take_len l k h) hj)
  have HJ0 := Lib.hid (show Nm.jn (l.take 0) = [] from rfl)
  have HJN : Hid (Nm.jn (l.take l.length) = Nm.jn l) := Lib.hid (by rw [List.take_length])
  clear h hj
  generalize hJf : (fun k => Nm.jn (l.take k)) = J at *
  have hJe : ∀ k, Nm.jn (l.take k) = J k := fun k => by rw [← hJf]
  simp only [hJe] at HJ HJL HJ0 HJN
  clear hJe hJf
  generalize Nm.jn l = R at *
  go_enter Tryz.func55, Tryz.ntmps55
  go_wp2_with fail
  go_loop [3, 4] (fun x i => ∃ k : Nat, k ≤ l.length ∧ i = .int .i64 k ∧ x = .string ⟨(J k).toArray⟩) (fun _ i => l.length - (intOf i).toNat)
  case atStart => exact ⟨0, Nat.zero_le _, rfl, by rw [HJ0.out]⟩
  case round =>
    obtain ⟨k, hk, rfl, rfl⟩ := hrel
    by_cases hlt : k < l.length
    · obtain ⟨lb, lo, rfl, hlb, _, hx⟩ := HR.out.lit k (by rw [byS_len]; omega)
      have ec := hx k _ (byS_get l k hlt)
      clear hx
      have hkl : (k : Int) < (l.length : Int) := by omega
      have hk0 : (0 : Int) ≤ (k : Int) := by omega
      have HJk := Lib.hid (HJ.out k hlt)
      have HL1 := Lib.hid (HJL.out (k + 1) (by omega))
      generalize l[k] = p at *
      generalize hJk : J k = jk at *
      by_cases hkp : 0 < k
      · have hkp' : (0 : Int) < (k : Int) := by omega
        have HJk2 : Hid (J (k + 1) = (jk ++ [46]) ++ p) := Lib.hid (by rw [HJk.out, if_pos hkp, List.append_assoc])
        have hc1 : (⟨jk.toArray⟩ : ByteArray) ++ ⟨#[46]⟩ = ⟨(jk ++ [46]).toArray⟩ := catB jk [46]
        obtain ⟨jd, hjd⟩ : ∃ jd, jd = jk ++ [46] := ⟨_, rfl⟩
        rw [← hjd] at hc1 HJk2
        have hc2 := catB jd p
        rw [← HJk2.out] at hc2
        have HLj : Hid (jd.length = jk.length + 1 ∧ jd.length + p.length ≤ 4294967280) := Lib.hid (by
          have h1 := HL1.out
          rw [HJk2.out, List.length_append] at h1
          refine ⟨by rw [hjd]; simp, h1⟩)
        have hz1 : ¬ 9223372036854775807 < jk.length + 1 := by have := HLj.out; omega
        have hz2 : ¬ 9223372036854775807 < jd.length + p.length := by have := HLj.out; omega
        clear hjd
        generalize hJ1 : J (k + 1) = jn1 at *
        have HJ1 := Lib.hid hJ1
        clear hJ1
        go_wp2_with fail
        go_round
        case rel => exact ⟨k + 1, by omega, by go_num, by rw [HJ1.out]⟩
        case measure => simp [intOf]; omega
      · obtain rfl : k = 0 := by omega
        rw [Nat.add_zero] at ec
        have HJk2 : Hid (J (0 + 1) = jk ++ p) := Lib.hid (by rw [HJk.out]; rfl)
        have hc2 := catB jk p
        rw [← HJk2.out] at hc2
        have hz2 : ¬ 9223372036854775807 < jk.length + p.length := by
          have h1 := HL1.out
          rw [HJk2.out, List.length_append] at h1
          omega
        generalize hJ1 : J (0 + 1) = jn1 at *
        have HJ1 := Lib.hid hJ1
        clear hJ1 hkp
        go_wp2_with fail
        go_round
        case rel => exact ⟨0 + 1, by omega, by go_num, by rw [HJ1.out]⟩
        case measure => simp [intOf]; omega
    · obtain rfl : k = l.length := by omega
      rw [HJN.out]
      go_wp2
      go_ret
      exact ⟨rfl, rfl⟩

/-- A row of bytes that a conversion laid. -/
def Bx (w : World) (b : Nat) (l : List UInt8) : Prop := ∃ cs f g, w.heap[b]? = some (.cells cs 5 (f, g)) ∧ l.length ≤ f ∧ ∀ j (h : j < l.length), cs[j]? = some (.int .u8 (l[j].toNat : Int))
theorem Bx.cell {w : World} {b : Nat} {l : List UInt8} (h : Bx w b l) (j : Nat) (hj : j < l.length) : w.cell? ⟨b, j, none⟩ = some (.int .u8 (l[j].toNat : Int)) := by
  obtain ⟨cs, f, g, h1, _, h3⟩ := h
  rw [cell_of_row w b j cs _ _ h1, h3 j hj]
theorem Bx.frozen {w : World} {b : Nat} {l : List UInt8} (h : Bx w b l) (j : Nat) (hj : j < l.length) : w.frozen? ⟨b, j, none⟩ = false := by
  obtain ⟨cs, f, g, h1, h2, _⟩ := h
  simp only [World.frozen?, h1]
  simp; omega
theorem Bx.lt {w : World} {b : Nat} {l : List UInt8} (h : Bx w b l) : b < w.heap.size := by
  obtain ⟨cs, f, g, h1, _⟩ := h
  exact (Array.getElem?_eq_some_iff.1 h1).1
theorem Bx.set {w : World} {b : Nat} {l : List UInt8} (h : Bx w b l) (k : Nat) (c : UInt8) : Bx (w.setCell ⟨b, k, none⟩ (.int .u8 (c.toNat : Int))) b (l.set k c) := by
  obtain ⟨cs, f, g, h1, h2, h3⟩ := h
  refine ⟨cs.setIfInBounds k (.int .u8 (c.toNat : Int)), f, g, Lib.heap_setCell_same h1 _, by simpa using h2, fun j hj => ?_⟩
  have hj' : j < l.length := by simpa using hj
  rw [Array.getElem?_setIfInBounds, List.getElem_set]
  have hlt : j < cs.size := (Array.getElem?_eq_some_iff.1 (h3 j hj')).1
  by_cases e : k = j
  · subst e; rw [if_pos rfl, if_pos hlt, if_pos rfl]
  · rw [if_neg e, if_neg e, h3 j hj']
theorem conv_bytes (l : List UInt8) (w : World) : ∃ c W', (convert 9 105 (.string ⟨l.toArray⟩)).run Tryz.prog w = .ok (.slice (some ⟨w.heap.size, 0, none⟩) l.length c) W' ∧ Bx W' w.heap.size l ∧ Below w.heap.size w W' := by
  have hs : (⟨l.toArray⟩ : ByteArray).size = l.length := by show l.toArray.size = _; simp
  have h := Lib.run_convert_string_bytes (P := Tryz.prog) w 9 105 5 ⟨l.toArray⟩ Tryz.underlying9 Tryz.underlying105 Tryz.underlying5
  rw [hs] at h
  refine ⟨_, _, h, ⟨_, _, _, Lib.bytesWorld_at_new _ _ _, ?_, fun j hj => ?_⟩, ⟨rfl, rfl, rfl, by rw [Lib.bytesWorld_size]; omega, fun k hk => Lib.bytesWorld_at_old w _ _ k hk⟩⟩
  · unfold Lib.bytesCells; simp
  · unfold Lib.bytesCells
    rw [Array.getElem?_append_left (by simpa using hj)]
    simp [hj]
theorem set_same {α : Type} (l : List α) (k : Nat) (h : k < l.length) : l.set k l[k] = l := by
  apply List.ext_getElem?
  intro j
  rw [List.getElem?_set]
  by_cases e : k = j
  · subst e; rw [if_pos rfl, if_pos h, List.getElem?_eq_getElem h]
  · rw [if_neg e]
theorem Nm.turn_at (a c : UInt8) (s : List UInt8) (k : Nat) (h : k < s.length) : (turn a c (s.take k) ++ s.drop k).set k (if s[k] = a then c else s[k]) = turn a c (s.take (k + 1)) ++ s.drop (k + 1) := by
  unfold turn
  have hl : ((s.take k).map fun b => if b = a then c else b).length = k := by simp; omega
  rw [List.set_append_right _ _ (by omega), hl, Nat.sub_self, List.take_succ_eq_append_getElem h, List.map_append, List.drop_eq_getElem_cons h, List.append_assoc]
  rfl
theorem Nm.turn_get (a c : UInt8) (s : List UInt8) (k : Nat) (h : k < s.length) (h2 : k < (turn a c (s.take k) ++ s.drop k).length) : (turn a c (s.take k) ++ s.drop k)[k] = s[k] := by
  have hl : (turn a c (s.take k)).length = k := by rw [turn_len, List.length_take]; omega
  rw [List.getElem_append_right (by omega), List.getElem_drop]
  congr 1
  omega

/-- What a text ends in, and what stands ahead of it. -/
theorem cutEnd (f : List UInt8) (k : Nat) : (⟨f.toArray⟩ : ByteArray).extract k f.length = ⟨(f.drop k).toArray⟩ := by
  rw [Nm.cutB, List.take_of_length_le (by rw [List.length_drop]; omega)]
theorem cutHead (f : List UInt8) (k : Nat) : (⟨f.toArray⟩ : ByteArray).extract 0 k = ⟨(f.take k).toArray⟩ := by
  rw [Nm.cutB, Nat.sub_zero, List.drop_zero]

theorem Nm.nd_get (s : List UInt8) (k : Nat) (h : k < (pt s).length) : nd s (k : Int) = (pt s)[k] := by rw [nd_at s k h, rest_at s k h]

end Go.Proofs.YtfmbbhcjnidcbaaGreatDoor

namespace Go.Proofs.YtfmbbhcjnidcbaaGreatDoor
open Go.RowKit
open Me

namespace Tr
theorem mtch_iff : ∀ (a b : Path), a.length = b.length → (mtch a b = true ↔ ∀ j (h1 : j < a.length) (h2 : j < b.length), Gl.gm a[j] b[j] = true)
  | [], [], _ => ⟨fun _ j h => absurd h (Nat.not_lt_zero _), fun _ => rfl⟩
  | [], _ :: _, h => by cases h
  | _ :: _, [], h => by cases h
  | x :: xs, y :: ys, h => by
    have ih := mtch_iff xs ys (by simpa using h)
    show (Gl.gm x y && mtch xs ys) = true ↔ _
    rw [Bool.and_eq_true, ih]
    constructor
    · rintro ⟨h1, h2⟩ j hj hj2
      cases j with
      | zero => exact h1
      | succ j => exact h2 j (by simpa using hj) (by simpa using hj2)
    · intro h1
      exact ⟨h1 0 (by simp) (by simp), fun j hj hj2 => h1 (j + 1) (by simpa using hj) (by simpa using hj2)⟩
def hitV : Option DH → Value
  | some h => .tuple #[.agg #[.string ⟨h.1.toArray⟩, .bool h.2], .bool true]
  | none => .tuple #[.agg #[.string ⟨#[]⟩, .bool false], .bool false]
theorem rd_S2 {base : Nat} {w : World} {v : Value} {l : List (List UInt8)} (h : OwnS base w v l) : ∃ A c, v = .slice A l.length c ∧ l.length ≤ c ∧ c ≤ maxLen ∧ Rd w (fun _ => True) A (byS l) := by
  obtain ⟨A, c, h1, h2, h3, h4⟩ := Ss.own h
  exact ⟨A, c, h1, h2, h3, h4.mono fun _ _ _ => trivial⟩
theorem rd_take {w : World} {G : Nat → Prop} {A : Option Addr} {L : List (List UInt8)} (q : Nat) (h : Rd w G A (byS L)) : Rd w G A (byS (L.take q)) := by
  intro hn
  obtain ⟨ad, ea, hl, hg, hc⟩ := h (by rintro e; apply hn; rw [← byS_take, e]; simp)
  refine ⟨ad, ea, hl, hg, fun j u hu => hc j u ?_⟩
  rw [← byS_take, List.getElem?_take] at hu
  split at hu
  · exact hu
  · cases hu
theorem hit_short {p : Path} {s : List UInt8} (h : (Nm.pt s).length < p.length) : hitV (hit p s) = .tuple #[.agg #[.string ⟨#[]⟩, .bool false], .bool false] := by
  unfold hit
  rw [if_neg (by omega)]; rfl
theorem hit_bad {p : Path} {s : List UInt8} (h : p.length ≤ (Nm.pt s).length) (k : Nat) (hk : k < p.length) (hx : k < (Nm.pt s).length) (hg : Gl.gm p[k] (Nm.pt s)[k] = false) : hitV (hit p s) = .tuple #[.agg #[.string ⟨#[]⟩, .bool false], .bool false] := by
  unfold hit
  rw [if_neg]
  · rfl
  · rintro ⟨_, hm⟩
    have := (mtch_iff _ _ (by rw [List.length_take]; omega)).1 hm k hk (by rw [List.length_take]; omega)
    rw [List.getElem_take, hg] at this
    cases this
theorem hit_good {p : Path} {s : List UInt8} (h : p.length ≤ (Nm.pt s).length) (hall : ∀ j (h1 : j < p.length) (h2 : j < (Nm.pt s).length), Gl.gm p[j] (Nm.pt s)[j] = true) : hitV (hit p s) = .tuple #[.agg #[.string ⟨(Nm.jn ((Nm.pt s).take p.length)).toArray⟩, .bool (decide ((Nm.pt s).length = p.length))], .bool true] := by
  unfold hit
  rw [if_pos]
  · rfl
  · refine ⟨h, (mtch_iff _ _ (by rw [List.length_take]; omega)).2 fun j h1 h2 => ?_⟩
    rw [List.getElem_take]
    exact hall j h1 (by rw [List.length_take] at h2; omega)
end Tr

set_option maxRecDepth 100000 in
set_option maxHeartbeats 2000000 in
theorem refHit_any (p : Tr.Path) (A : Option Addr) (cp : Nat) (s : List UInt8) (w : World) (hr : Rd w (fun _ => True) A (byS p)) (hp : ∀ q ∈ p, q.length ≤ 4294967270) (hs : s.length ≤ 4294967200) (hp9 : p.length ≤ 4294967280) :
    Calls Tryz.prog 30 #[.slice A p.length cp, .string ⟨s.toArray⟩] w fun e w' => e = .returned (Tr.hitV (Tr.hit p s)) ∧ Below w.heap.size w w' := by
  have HR := Lib.hid hr
  have HP := Lib.hid fun W => refParts_any s (by omega) W
  have HPl := Lib.hid hp
  have HXl := Lib.hid (Nm.pt_part_len s)
  have hxn := Nm.pt_len s
  have hp9I : (p.length : Int) ≤ 4294967280 := by omega
  have hx9I : ((Nm.pt s).length : Int) ≤ 4294967280 := by omega
  have HJ : Hid ((Nm.jn ((Nm.pt s).take p.length)).length ≤ 4294967280) := Lib.hid (by
    by_cases hle : p.length ≤ (Nm.pt s).length
    · have := Nm.jn_take_len (Nm.pt s) p.length hle
      rw [Nm.jn_pt] at this; omega
    · rw [List.take_of_length_le (by omega), Nm.jn_pt]; omega)
  have H1 := Lib.hid (@Tr.hit_short p s)
  have H2 := Lib.hid (@Tr.hit_bad p s)
  have H3 := Lib.hid (@Tr.hit_good p s)
  clear hr hp hxn
  generalize Tr.hitV (Tr.hit p s) = HV at *
  have HBx : Hid (∀ W, Below (w.alloc (.cells #[.string ⟨#[]⟩, .bool false] 67)).heap.size (w.alloc (.cells #[.string ⟨#[]⟩, .bool false] 67)) W → RowAt W w.heap.size 67 #[.string ⟨#[]⟩, .bool false]) := Lib.hid fun W h => (h.block _ (by simp)).trans (heap_alloc_new w _)
  by_cases hle : p.length ≤ (Nm.pt s).length
  · have hleI : ¬ ((Nm.pt s).length : Int) < (p.length : Int) := by omega
    go_enter Tryz.func30, Tryz.ntmps30
    generalize Nm.pt s = x at *
    go_wp2_with (go_at_call 37; go_must (refine (HP.out _).mono ?_; rintro e w1 ⟨v1, rfl, ho1, hb1⟩; obtain ⟨B, c, rfl, hcc, hcm, hr1⟩ := Tr.rd_S2 ho1; unfold maxLen at hcm; have HX := Lib.hid hr1; have HBa := Lib.hid hb1; have hb1s := hb1.size; clear ho1 hr1 hb1))
    rw [show decide (x.length < p.length) = false from decide_eq_false (by omega)]
    go_loopw [7] (fun i wr => ∃ k : Nat, k ≤ p.length ∧ i = .int .i64 k ∧ Hid (Below w1.heap.size w1 wr) ∧ Hid (∀ j (h : j < p.length) (h2 : j < x.length), j < k → Gl.gm p[j] x[j] = true)) (fun i _ => p.length - (intOf i).toNat)
    case atStart => exact ⟨0, Nat.zero_le _, rfl, Lib.hid (Below.refl _ _), Lib.hid fun _ _ _ h => absurd h (Nat.not_lt_zero _)⟩
    case round =>
      obtain ⟨k, hk, rfl, HW, HN⟩ := hrel
      have hk0 : (0 : Int) ≤ (k : Int) := by omega
      have HWa := Lib.hid (HBa.out.trans (HW.out.mono HBa.out.size))
      have HWw := Lib.hid (((Below.refl w.heap.size w).alloc (Nat.le_refl _) (.cells #[.string ⟨#[]⟩, .bool false] 67)).trans (HWa.out.mono (by simp)))
      have hws : w.heap.size < wr.heap.size := by have := HWa.out.size; simp at this; omega
      by_cases h1 : k < p.length
      · have h1I : (k : Int) < (p.length : Int) := by omega
        have h2 : k < x.length := by omega
        have h2I : (k : Int) < (x.length : Int) := by omega
        obtain ⟨lb, lo, rfl, hlb, _, hx⟩ := HR.out.lit k (by rw [byS_len]; exact h1)
        obtain ⟨lb', lo', rfl, hlb', _, hy⟩ := HX.out.lit k (by rw [byS_len]; exact h2)
        have ec := (HWw.out.cell (p := ⟨lb, lo + k, none⟩) hlb).trans (hx k _ (byS_get p k h1))
        have ec' := (HW.out.cell (p := ⟨lb', lo' + k, none⟩) hlb').trans (hy k _ (byS_get x k h2))
        have HM := Lib.hid fun W => refMatch_any p[k] x[k] (HPl.out _ (List.getElem_mem h1)) (by have := HXl.out _ (List.getElem_mem h2); omega) W
        clear hx hy
        cases hg : Gl.gm p[k] x[k]
        · have HQ := Lib.hid (H2.out hle k h1 h2 hg)
          rw [hg] at HM
          have HRw := Lib.hid (HBx.out wr HWa.out)
          clear HN hg
          generalize p[k] = pk at *
          generalize x[k] = xk at *
          go_wp2_with fail
          go_region_law (go_simp; go_at_call 54; refine (HM.out _).mono ?_; rintro e w2 ⟨rfl, hb2⟩)
          all_goals
            have HB2 := Lib.hid (HWw.out.drew.trans (hb2.mono HWw.out.drew.size))
            have hbx : RowAt w2 w.heap.size 67 #[.string ⟨#[]⟩, .bool false] := (hb2.block _ (by simpa using hws)).trans HRw.out
            have b0 := hbx.cell 0
            have b1 := hbx.cell 1
            have f0 := hbx.frozen 0
            have f1 := hbx.frozen 1
            have hwl := hbx.lt
            clear hbx hb2
            go_wp2_with fail
            (try simp only [Exit.inBlock, Exit.then])
            refine bodyPost_ret ((results_cell_tmp rfl _ _ _).trans (by simp [go_sem, *]; rfl)) rfl ?_
            exact ⟨by rw [HQ.out], (HB2.out.setCell (Nat.le_refl _) _).setCell (Nat.le_refl _) _⟩
        · have HN2 : Hid (∀ j (h : j < p.length) (h2 : j < x.length), j < k + 1 → Gl.gm p[j] x[j] = true) := Lib.hid fun j h h2 hj => by
            by_cases e : j = k
            · subst e; exact hg
            · exact HN.out j h h2 (by omega)
          rw [hg] at HM
          clear HN hg
          generalize p[k] = pk at *
          generalize x[k] = xk at *
          go_wp2_with fail
          go_region_law (go_simp; go_at_call 54; refine (HM.out _).mono ?_; rintro e w2 ⟨rfl, hb2⟩)
          all_goals
            go_wp2_with fail
            go_roundw
            case rel => exact ⟨k + 1, by omega, by go_num, Lib.hid (HW.out.drew.trans (hb2.mono HW.out.drew.size)), HN2⟩
            case measure => simp [intOf]; omega
      · obtain rfl : k = p.length := by omega
        have HQ := Lib.hid (H3.out hle fun j h1 h2 => HN.out j h1 h2 h1)
        have hpc : (p.length : Int) ≤ (c : Int) := by omega
        have hpc' : p.length ≤ c := by omega
        have HJn := Lib.hid fun W h => refJoin_any (x.take p.length) B c W h HJ.out (by rw [List.length_take]; omega)
        have hlt : (x.take p.length).length = p.length := by rw [List.length_take]; omega
        rw [hlt] at HJn
        have hxx := HX.out
        have HRt := Lib.hid (Tr.rd_take p.length ((HX.out).below HW.out))
        have hbx := HBx.out wr HWa.out
        have b0 := hbx.cell 0
        have b1 := hbx.cell 1
        have f0 := hbx.frozen 0
        have f1 := hbx.frozen 1
        have hwl := hbx.lt
        clear hbx HN hlt hxx
        go_wp2_with (go_at_call 55; go_must (refine (HJn.out _ HRt.out).mono ?_; rintro e w3 ⟨rfl, rfl⟩))
        clear hpc' hcc hcm
        (try simp only [Exit.inBlock, Exit.then])
        refine bodyPost_ret ((results_cell_tmp rfl _ _ _).trans (by simp [go_sem, *]; rfl)) rfl ?_
        exact ⟨by rw [HQ.out]; rw [show ((x.length : Int) == (p.length : Int)) = decide (x.length = p.length) by rw [Bool.eq_iff_iff, beq_iff_eq, decide_eq_true_iff]; omega], (HWw.out.setCell (Nat.le_refl _) _).setCell (Nat.le_refl _) _⟩
  · have hltI : ((Nm.pt s).length : Int) < (p.length : Int) := by omega
    have HQ := Lib.hid (H1.out (by omega))
    go_enter Tryz.func30, Tryz.ntmps30
    generalize Nm.pt s = x at *
    go_wp2_with (go_at_call 37; go_must (refine (HP.out _).mono ?_; rintro e w1 ⟨v1, rfl, ho1, hb1⟩; obtain ⟨B, c, rfl, hr1⟩ := Tr.rd_S ho1; have hbx := HBx.out _ hb1; have b0 := hbx.cell 0; have b1 := hbx.cell 1; have f0 := hbx.frozen 0; have f1 := hbx.frozen 1; have hwl := hbx.lt; have HB1 := Lib.hid (((Below.refl w.heap.size w).alloc (Nat.le_refl _) (.cells #[.string ⟨#[]⟩, .bool false] 67)).trans (hb1.mono (by simp))); clear ho1 hr1 hbx hb1))
    (try simp only [Exit.inBlock, Exit.then])
    refine bodyPost_ret ((results_cell_tmp rfl _ _ _).trans (by simp [go_sem, *]; rfl)) rfl ?_
    exact ⟨by rw [HQ.out], (HB1.out.setCell (Nat.le_refl _) _).setCell (Nat.le_refl _) _⟩
end Go.Proofs.YtfmbbhcjnidcbaaGreatDoor
