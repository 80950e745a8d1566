/-
  CONTRACTS: chapter 14: LexBlanks.
-/
import Derived.Test.YtcbpdefpknckgaaDoorLxLaw
import Derived.SizedLaws
import Derived.Laws.Bits128
namespace Go.Proofs.YtcbpdefpknckgaaDoor
open Go.RowKit
open Me

namespace Lx
theorem i64_and1023 (n : Int) : bits .and .i64 n 1023 = n % 1024 := by
  have h : (BitVec.ofInt 64 1023).toNat = 2 ^ 10 - 1 := by decide
  have key : (BitVec.ofInt 64 n &&& BitVec.ofInt 64 1023).toNat = (n % ((2 ^ 64 : Nat) : Int)).toNat % 2 ^ 10 := by
    rw [BitVec.toNat_and, BitVec.toNat_ofInt, h, Nat.and_two_pow_sub_one_eq_mod]
  show IntKind.i64.wrap ((BitVec.ofInt 64 n &&& BitVec.ofInt 64 1023).toNat : Nat) = n % 1024
  rw [key, IntKind.wrap_i64]
  omega
theorem sign_cases (n : Int) : (bits .and .i64 n 1023).tmod 3 = 0 ∨ (bits .and .i64 n 1023).tmod 3 = 1 ∨ (bits .and .i64 n 1023).tmod 3 = 2 := by
  rw [i64_and1023, Int.tmod_eq_emod_of_nonneg (by omega)]
  omega
theorem wpList_app_g {P : Program} {w : World} {ops : Array Oper} {rest : List Oper} {o : Oper} {a : Act} {Q : Exit → Act → World → Prop} (hw : Region.wanted o (yielded ops a.tmps) = true) (s x : Operand) (t : TypeId)
    (ho : o.op = .call { callee := .builtin .append, args := #[s, x], argTypes := #[t, t] })
    (base : Nat) (e : TypeId) (i : TypeInfo) (z : Value) (size bytes : Nat) (ht : P.underlying t = some (.slice e)) (hi : P.info? e = some i) (hz : i.zero = some z)
    (hsize : i.size = size) (hby : i.bytes = bytes) (hzs : z.cells.size = size) (hsz : 0 < size)
    (v : Value) (n : Nat) (xs : List Value) (hs : a.eval s = v) (hown : w.ownsRow base e size v n xs)
    (G : Nat → Prop) (A : Option Addr) (m c : Nat) (news : List Value) (hx : a.eval x = .slice A m c) (hl : news.length = m * size) (hr : Rd w G A news) (h1 : ∀ u ∈ news, u.oneCell' = true)
    (h63 : n + m ≤ maxLen) (hbytes : (n + m) * bytes ≤ 140737488355328) (hbase : base ≤ w.heap.size)
    (h : ∀ v' w', w'.ownsRow base e size v' (n + m) (xs ++ news) → w.grownBy w' v.ownBlock → (v'.ownBlock = v.ownBlock ∨ v'.ownBlock = some w.heap.size) → (v' = .slice none 0 0 → v = .slice none 0 0) → wpList P ops Q rest (a.put o.dst v') w') : wpList P ops Q (o :: rest) a w :=
  wpList_step fun _ hK => by
    rw [if_pos hw]
    exact wp_app w s x t ho base e i z size bytes ht hi hz hsize hby hzs hsz v n xs hs hown G A m c news hx hl hr h1 h63 hbytes hbase fun v' w' h2 h3 h4 h5 => hK _ _ (h v' w' h2 h3 h4 h5)
theorem cat {a b c : List UInt8} (h : c = a ++ b) : (⟨a.toArray⟩ : ByteArray) ++ ⟨b.toArray⟩ = ⟨c.toArray⟩ := by subst h; apply ByteArray.ext; simp
theorem own_sl {w : World} {base : Nat} {e : TypeId} {size n : Nat} {v : Value} {xs : List Value} (h : w.ownsRow base e size v n xs) : ∃ A c, v = .slice A n c := by
  rcases h.2 with ⟨rfl, h0⟩ | ⟨g, cap, cur, rfl, _⟩
  · exact ⟨none, 0, by rw [h0]⟩
  · exact ⟨_, _, rfl⟩
/-- Rows in a range of blocks. -/
def In (a b : Nat) : Nat → Prop := fun i => a ≤ i ∧ i < b
theorem OwnT.rdIn {e : TypeId} {base : Nat} {w : World} {A : Option Addr} {c : Nat} {l : List Tok} (h : OwnT e base w (.slice A l.length c) l) : Rd w (In base w.heap.size) A (cellsT l) := (Rd.own h).mono fun i _ hi => h.lt i hi
theorem rd_grown {w w' : World} {a b : Nat} {A : Option Addr} {xs : List Value} {row : Option Nat} (h : Rd w (In a b) A xs) (hg : w.grownBy w' row) (hr : ∀ g, row = some g → g < a ∨ b ≤ g) : Rd w' (In a b) A xs :=
  h.keep hg.size fun i hi hI => hg.block i hi fun e => by rcases hr i e.symm with h | h <;> (have := hI.1; have := hI.2; omega)
end Lx

set_option maxRecDepth 100000 in
set_option maxHeartbeats 8000000 in
theorem lawBlanks14 (a : List UInt8) (sg : Int) (hs1 : -9223372036854775808 ≤ sg) (hs2 : sg ≤ 9223372036854775807) (b : List UInt8) (n : Int) (hn1 : -9223372036854775808 ≤ n) (hn2 : n ≤ 9223372036854775807)
    (sz0 : a.length ≤ reachBytes) (sz2 : b.length ≤ reachBytes) (w : World) :
    Calls Tryd.prog 5 #[.string ⟨a.toArray⟩, .int .i64 sg, .string ⟨b.toArray⟩, .int .i64 n] w fun e w' => e = .returned (.bool true) ∧ Below w.heap.size w w' := by
  unfold reachBytes at sz0 sz2
  have hws : IntKind.i64.wrap ((a.length : Int) + (b.length : Int)) = (a.length : Int) + (b.length : Int) := by rw [IntKind.wrap_i64]; omega
  by_cases hl : 300 < a.length + b.length
  · have hI : (300 : Int) < (a.length : Int) + (b.length : Int) := by omega
    clear hl
    go_enter Tryd.func5, Tryd.ntmps5
    go_wp2_with fail
    go_ret
    exact ⟨rfl, Below.refl _ _⟩
  · have hI : ¬ (300 : Int) < (a.length : Int) + (b.length : Int) := by omega
    by_cases hn : n < 0
    · clear hl
      go_enter Tryd.func5, Tryd.ntmps5
      go_wp2_with fail
      go_ret
      exact ⟨rfl, Below.refl _ _⟩
    by_cases hn3 : 50 < n
    · clear hl
      go_enter Tryd.func5, Tryd.ntmps5
      go_wp2_with fail
      go_ret
      exact ⟨rfl, Below.refl _ _⟩
    obtain ⟨N, rfl⟩ : ∃ N : Nat, n = (N : Int) := ⟨n.toNat, by omega⟩
    have hN : N ≤ 50 := by omega
    have hal : a.length ≤ 300 := by omega
    have hbl : b.length ≤ 300 := by omega
    clear hn hn3 hn1 hn2 hs1 hs2 sz0 sz2 hl
    go_enter Tryd.func5, Tryd.ntmps5
    go_wp2_with fail
    go_loopw [9, 10] (fun tv x wr => ∃ (i : Nat) (l : List UInt8), tv = .string ⟨l.toArray⟩ ∧ x = .int .i64 (i : Int) ∧ i ≤ N ∧ Hid (l = Lx.gap i) ∧ Hid (w = wr)) (fun _ x _ => N - (intOf x).toNat)
    case atStart => exact ⟨0, [], rfl, rfl, Nat.zero_le _, Lib.hid rfl, Lib.hid rfl⟩
    case round =>
      obtain ⟨i, l, rfl, rfl, hi, HL, HW⟩ := hrel
      obtain rfl := HW.out
      clear HW
      by_cases hlt : i < N
      · have hltI : (i : Int) < (N : Int) := by omega
        obtain ⟨l2, hl2⟩ : ∃ l2, l2 = l ++ [32] := ⟨_, rfl⟩
        have hcat : (⟨l.toArray⟩ : ByteArray) ++ ⟨#[32]⟩ = ⟨l2.toArray⟩ := by rw [hl2]; apply ByteArray.ext; simp
        have HL2 : Hid (l2 = Lx.gap (i + 1)) := Lib.hid (by rw [hl2, HL.out]; unfold Lx.gap; rw [List.replicate_succ'])
        have hll : l.length ≤ 50 := by rw [HL.out]; unfold Lx.gap; simp; omega
        clear hl2
        go_wp2_with fail
        go_roundw
        case rel => exact ⟨i + 1, l2, rfl, by go_num, by omega, HL2, Lib.hid (by first | trivial | rfl)⟩
        case measure => simp [intOf]; omega
      · obtain rfl : i = N := by omega
        have hltI : ¬ (i : Int) < (i : Int) := by omega
        have hll : l.length ≤ 50 := by rw [HL.out]; unfold Lx.gap; simp; omega
        have HK := Lib.hid known14_any
        have HRL := Lib.hid fun s (hs : s.length ≤ 4096) W => lrefLex_any s (by omega) W
        have HPL := Lib.hid fun s (hs : s.length ≤ 4096) W => llex_any s (by omega) W
        have HTK := Lib.hid fun (l m : List Lx.Tok) (A B : Option Addr) (ca cb : Nat) (W : World) (G H : Nat → Prop) ha hb hl hm => ltokens_any l m A B ca cb W G H ha hb hl hm
        have hsc : ∃ c : UInt8, Lx.signs c = true ∧ (((bits .and .i64 sg 1023).tmod 3 = 0 ∧ c = 40) ∨ ((bits .and .i64 sg 1023).tmod 3 = 1 ∧ c = 41) ∨ ((bits .and .i64 sg 1023).tmod 3 = 2 ∧ c = 44)) := by
          rcases Lx.sign_cases sg with h | h | h
          · exact ⟨40, by decide, .inl ⟨h, rfl⟩⟩
          · exact ⟨41, by decide, .inr (.inl ⟨h, rfl⟩)⟩
          · exact ⟨44, by decide, .inr (.inr ⟨h, rfl⟩)⟩
        obtain ⟨c, hsg, hsc⟩ := hsc
        have HSG := Lib.hid hsg
        have hcv : (convert 32 9 (.slice (some ⟨w.heap.size, 0, none⟩) 1 1)).run Tryd.prog (w.alloc (.cells #[.int .u8 (c.toNat : Int)] 5)) = .ok (.string ⟨#[c]⟩) (w.alloc (.cells #[.int .u8 (c.toNat : Int)] 5)) :=
          run_convert_bytes_back _ _ _ 5 ⟨w.heap.size, 0, none⟩ 1 [c] Tryd.underlying32 Tryd.underlying5 Tryd.underlying9 (fun j hj => by
            have hj : j = 0 := by simp at hj; omega
            subst hj
            exact ((RowAt.new w _ _).cell 0).trans rfl)
        have HB1 : Hid (Below w.heap.size w (w.alloc (.cells #[] 5))) := Lib.hid ((Below.refl _ _).alloc (Nat.le_refl _) _)
        clear HB1
        clear hsg hlt hltI hi
        rcases hsc with ⟨hV, rfl⟩ | ⟨hV, rfl⟩ | ⟨hV, rfl⟩
        · have e0 : (⟨#[40, 41, 44]⟩ : ByteArray)[0]'(by decide) = 40 := rfl
          have hcv3 : (convert 32 9 (.slice (some ⟨w.heap.size, 0, none⟩) 1 1)).run Tryd.prog (w.alloc (.cells #[.int .u8 40] 5)) = .ok (.string ⟨#[40]⟩) (w.alloc (.cells #[.int .u8 40] 5)) := hcv
          have HB1 : Hid (Below w.heap.size w (w.alloc (.cells #[.int .u8 40] 5))) := Lib.hid ((Below.refl _ _).alloc (Nat.le_refl _) _)
          clear hcv
          cases hxa : Lx.lex a with
          | none =>
            have HRA : Hid (Calls Tryd.prog 7 #[.string ⟨a.toArray⟩] (w.alloc (.cells #[.int .u8 40] 5)) fun e w' => ∃ v, e = .returned (.tuple #[v, .int .i64 8]) ∧ Below w.heap.size w w') := Lib.hid ((HRL.out a (by omega) _).mono fun e w' ⟨v, h1, _, h3⟩ => ⟨v, by rw [h1, (Lx.lex_no (by omega) hxa).1], HB1.out.trans (h3.mono HB1.out.size)⟩)
            have HRB : Hid (∀ W, Calls Tryd.prog 7 #[.string ⟨b.toArray⟩] W fun e w' => ∃ v, e = .returned (.tuple #[v, .int .i64 (Lx.lexErr b)]) ∧ Below W.heap.size W w') := Lib.hid fun W => (HRL.out b (by omega) W).mono fun e w' ⟨v, h1, _, h3⟩ => ⟨v, h1, h3⟩
            clear hxa
            generalize Lx.lexErr b = E at *
            go_wp2_with first
              | (go_at_call 7; (with_reducible refine HRA.out.mono ?_); rintro e w2 ⟨v1, rfl, hb1⟩; have HB2 := Lib.hid hb1; clear hb1)
              | (go_at_call 7; (with_reducible refine (HRB.out _).mono ?_); rintro e w3 ⟨v2, rfl, hb2⟩; have HB3 := Lib.hid (HB2.out.trans (hb2.mono HB2.out.size)); clear hb2)
              | (go_at_call 9; go_must (refine (HK.out _).mono ?_; rintro e w4 ⟨rfl, hb4⟩; have HB4 := Lib.hid (HB3.out.trans (hb4.mono HB3.out.size)); clear hb4))
            go_ret
            exact ⟨rfl, HB4.out⟩
          | some x =>
            have hxl := Lx.lex_count hxa
            have HRA : Hid (Calls Tryd.prog 7 #[.string ⟨a.toArray⟩] (w.alloc (.cells #[.int .u8 40] 5)) fun e w' => ∃ v, e = .returned (.tuple #[v, .int .i64 0]) ∧ Lx.OwnT 43 (w.alloc (.cells #[.int .u8 40] 5)).heap.size w' v x ∧ Below w.heap.size w w' ∧ (w.alloc (.cells #[.int .u8 40] 5)).heap.size ≤ w'.heap.size) := Lib.hid ((HRL.out a (by omega) _).mono fun e w' ⟨v, h1, h2, h3⟩ => ⟨v, by rw [h1, (Lx.lex_yes (by omega) hxa).1], by rwa [(Lx.lex_yes (by omega) hxa).2] at h2, HB1.out.trans (h3.mono HB1.out.size), h3.size⟩)
            cases hxb : Lx.lex b with
            | none =>
              have HRB : Hid (∀ W, Calls Tryd.prog 7 #[.string ⟨b.toArray⟩] W fun e w' => ∃ v, e = .returned (.tuple #[v, .int .i64 8]) ∧ Below W.heap.size W w') := Lib.hid fun W => (HRL.out b (by omega) W).mono fun e w' ⟨v, h1, _, h3⟩ => ⟨v, by rw [h1, (Lx.lex_no (by omega) hxb).1], h3⟩
              clear hxa hxb
              go_wp2_with first
                | (go_at_call 7; (with_reducible refine HRA.out.mono ?_); rintro e w2 ⟨v1, rfl, ho1, hb1, hz1⟩; have HB2 := Lib.hid hb1; clear hb1 ho1 hz1)
                | (go_at_call 7; (with_reducible refine (HRB.out _).mono ?_); rintro e w3 ⟨v2, rfl, hb2⟩; have HB3 := Lib.hid (HB2.out.trans (hb2.mono HB2.out.size)); clear hb2)
                | (go_at_call 9; go_must (refine (HK.out _).mono ?_; rintro e w4 ⟨rfl, hb4⟩; have HB4 := Lib.hid (HB3.out.trans (hb4.mono HB3.out.size)); clear hb4))
              go_ret
              exact ⟨rfl, HB4.out⟩
            | some y =>
              have hyl := Lx.lex_count hxb
              obtain ⟨z, hz⟩ : ∃ z, Lx.lex [40] = some z := ⟨_, rfl⟩
              have hzl := Lx.lex_count hz
              have hzl : z.length ≤ 1 := hzl
              obtain ⟨p1, hp1⟩ : ∃ p1, p1 = l ++ a := ⟨_, rfl⟩
              obtain ⟨p2, hp2⟩ : ∃ p2, p2 = p1 ++ l := ⟨_, rfl⟩
              obtain ⟨p3, hp3⟩ : ∃ p3, p3 = p2 ++ [40] := ⟨_, rfl⟩
              obtain ⟨p4, hp4⟩ : ∃ p4, p4 = p3 ++ l := ⟨_, rfl⟩
              obtain ⟨p5, hp5⟩ : ∃ p5, p5 = p4 ++ b := ⟨_, rfl⟩
              obtain ⟨p6, hp6⟩ : ∃ p6, p6 = p5 ++ l := ⟨_, rfl⟩
              have q1 := Lx.cat hp1
              have q2 := Lx.cat hp2
              have q3 : (⟨p2.toArray⟩ : ByteArray) ++ ⟨#[40]⟩ = ⟨p3.toArray⟩ := Lx.cat hp3
              have q4 := Lx.cat hp4
              have q5 := Lx.cat hp5
              have q6 := Lx.cat hp6
              have n1 : p1.length ≤ 350 := by rw [hp1]; simp; omega
              have n2 : p2.length ≤ 400 := by rw [hp2]; simp; omega
              have n3 : p3.length ≤ 401 := by rw [hp3]; simp; omega
              have n4 : p4.length ≤ 451 := by rw [hp4]; simp; omega
              have n5 : p5.length ≤ 751 := by rw [hp5]; simp; omega
              have n6 : p6.length ≤ 801 := by rw [hp6]; simp; omega
              have hlx : Lx.lex p6 = some (x ++ (z ++ y)) := by
                rw [hp6, hp5, hp4, hp3, hp2, hp1, HL.out]
                exact Lx.lex_blanks HSG.out i hxa hxb hz
              have HRB : Hid (∀ W, Calls Tryd.prog 7 #[.string ⟨b.toArray⟩] W fun e w' => ∃ v, e = .returned (.tuple #[v, .int .i64 0]) ∧ Lx.OwnT 43 W.heap.size w' v y ∧ Below W.heap.size W w') := Lib.hid fun W => (HRL.out b (by omega) W).mono fun e w' ⟨v, h1, h2, h3⟩ => ⟨v, by rw [h1, (Lx.lex_yes (by omega) hxb).1], by rwa [(Lx.lex_yes (by omega) hxb).2] at h2, h3⟩
              have HRC : Hid (∀ W, Calls Tryd.prog 7 #[.string ⟨#[40]⟩] W fun e w' => ∃ v, e = .returned (.tuple #[v, .int .i64 0]) ∧ Lx.OwnT 43 W.heap.size w' v z ∧ Below W.heap.size W w') := Lib.hid fun W => (HRL.out [40] (by simp) W).mono fun e w' ⟨v, h1, h2, h3⟩ => ⟨v, by rw [h1, (Lx.lex_yes (by simp) hz).1], by rwa [(Lx.lex_yes (by simp) hz).2] at h2, h3⟩
              have HRP : Hid (∀ W, Calls Tryd.prog 6 #[.string ⟨p6.toArray⟩] W fun e w' => ∃ v, e = .returned (.tuple #[v, .int .i64 0]) ∧ Lx.OwnT 40 W.heap.size w' v (x ++ (z ++ y)) ∧ Below W.heap.size W w') := Lib.hid fun W => (HPL.out p6 (by omega) W).mono fun e w' ⟨v, h1, h2, h3⟩ => ⟨v, by rw [h1, (Lx.lex_yes (by omega) hlx).1], by rwa [(Lx.lex_yes (by omega) hlx).2] at h2, h3⟩
              clear hxa hxb hz hp1 hp2 hp3 hp4 hp5 hp6 hlx
              obtain ⟨i0, hi0, hz0, hz1, hz2⟩ := info_parts Lx.reftokinfo
              have HI := Lib.hid hi0
              have HZ := Lib.hid (And.intro hz0 (And.intro hz1 hz2))
              clear hi0 hz0 hz1 hz2
              obtain ⟨m0, hm0⟩ : ∃ m0, Hid (m0 = (w.alloc (.cells #[.int .u8 40] 5)).heap.size) := ⟨_, Lib.hid rfl⟩
              have HMB : Hid (w.heap.size ≤ m0) := Lib.hid (by rw [hm0.out]; exact HB1.out.size)
              have HTK2 : Hid (∀ (A B : Option Addr) (ca cb n1 n2 : Nat) (W : World) (G H : Nat → Prop), n1 = (x ++ (z ++ y)).length → n2 = (x ++ (z ++ y)).length → Rd W G A (Lx.cellsT (x ++ (z ++ y))) → Rd W H B (Lx.cellsT (x ++ (z ++ y))) → Calls Tryd.prog 8 #[.slice A n1 ca, .slice B n2 cb] W fun e w' => e = .returned (.bool true) ∧ Below W.heap.size W w') := Lib.hid fun A B ca cb n1 n2 W G H e1 e2 h1 h2 => by
                subst e1 e2
                refine (HTK.out _ _ A B ca cb W G H h1 h2 (by simp; omega) (by simp; omega)).mono ?_
                rintro e w' ⟨rfl, hb⟩
                exact ⟨by simp, hb⟩
              go_wp2_with first
                | (go_at_call 7; (with_reducible refine HRA.out.mono ?_); rintro e w2 ⟨v1, rfl, ho1, hb1, hz1⟩; obtain ⟨A1, c1, rfl⟩ := ho1.form; have HM2 : Hid (m0 ≤ w2.heap.size) := Lib.hid (by rw [hm0.out]; exact hz1); rw [← hm0.out] at ho1; have HX2 := Lib.hid ho1; have HB2 := Lib.hid hb1; clear hb1 ho1 hz1)
                | (go_at_call 7; (with_reducible refine (HRB.out _).mono ?_); rintro e w3 ⟨v2, rfl, ho2, hb2⟩; obtain ⟨A2, c2, rfl⟩ := ho2.form; have HY3 := Lib.hid ho2; have HX3 := Lib.hid (HX2.out.below hb2); have HB3 := Lib.hid (HB2.out.trans (hb2.mono HB2.out.size)); have HS3 := Lib.hid hb2.size; clear hb2 ho2)
                | (go_at_call 6; go_must (refine (HRP.out _).mono ?_; rintro e w4 ⟨v3, rfl, ho3, hb3⟩; obtain ⟨A3, c3, rfl⟩ := ho3.form; have HP4 := Lib.hid ho3; have HX4 := Lib.hid (HX3.out.below hb3); have HY4 := Lib.hid (HY3.out.rdIn.below hb3); have HB4 := Lib.hid (HB3.out.trans (hb3.mono HB3.out.size)); have HS4 := Lib.hid hb3.size; clear hb3 ho3))
                | (go_at_call 7; (with_reducible refine (HRC.out _).mono ?_); rintro e w5 ⟨v4, rfl, ho4, hb4⟩; obtain ⟨A4, c4, rfl⟩ := ho4.form; have HZ5 := Lib.hid ho4; have HX5 := Lib.hid (HX4.out.below hb4); have HY5 := Lib.hid (HY4.out.below hb4); have HP5 := Lib.hid (HP4.out.rdIn.below hb4); have HB5 := Lib.hid (HB4.out.trans (hb4.mono HB4.out.size)); have HS5 := Lib.hid hb4.size; clear hb4 ho4)
                | (at_builtin; refine Lx.wpList_app_g rfl (.tmp 90) (.tmp 91) 26 rfl m0 43 i0 _ 2 24 Tryd.underlying26 HI.out HZ.out.1 HZ.out.2.1 HZ.out.2.2 rfl (by decide) (.slice A1 x.length c1) x.length (Lx.cellsT x) (by simp [Act.eval]) HX5.out (Lx.In w4.heap.size w5.heap.size) A4 z.length c4 (Lx.cellsT z) (by simp [Act.eval]) (Lx.cellsT_len _) HZ5.out.rdIn (Lx.cellsT_one _) (by unfold maxLen; omega) (by omega) (by have h1 := HB2.out.size; have h2 := HS3.out; have h3 := HS4.out; have h4 := HS5.out; have h5 := HM2.out; omega) ?_; intro v6 w6 hown6 hg6 hat6 hnil6; obtain ⟨A6, c6, rfl⟩ := Lx.own_sl hown6; have HO6 := Lib.hid hown6; have HY6 := Lib.hid (Lx.rd_grown HY5.out hg6 (fun g e => .inl (HX2.out.lt g e).2)); have HP6 := Lib.hid (Lx.rd_grown HP5.out hg6 (fun g e => .inl (Nat.lt_of_lt_of_le (HX2.out.lt g e).2 HS3.out))); have HAT6 := Lib.hid hat6; have HB6 := Lib.hid (HB5.out.grown hg6 HB5.out.size (fun g e => Nat.le_trans HMB.out (HX2.out.lt g e).1)); have HS6 := Lib.hid hg6.size; clear hown6 hg6 hat6 hnil6)
                | (at_builtin; refine Lx.wpList_app_g rfl (.tmp 92) (.tmp 93) 26 rfl m0 43 i0 _ 2 24 Tryd.underlying26 HI.out HZ.out.1 HZ.out.2.1 HZ.out.2.2 rfl (by decide) (.slice A6 (x.length + z.length) c6) (x.length + z.length) (Lx.cellsT x ++ Lx.cellsT z) (by simp [Act.eval]) HO6.out (Lx.In w2.heap.size w3.heap.size) A2 y.length c2 (Lx.cellsT y) (by simp [Act.eval]) (Lx.cellsT_len _) HY6.out (Lx.cellsT_one _) (by unfold maxLen; omega) (by omega) (by have h1 := HB2.out.size; have h2 := HS3.out; have h3 := HS4.out; have h4 := HS5.out; have h5 := HM2.out; have h6 := HS6.out; omega) ?_; intro v7 w7 hown7 hg7 hat7 hnil7; obtain ⟨A7, c7, rfl⟩ := Lx.own_sl hown7; have HR7 : Hid (Rd w7 (fun _ => True) A7 (Lx.cellsT (x ++ (z ++ y)))) := Lib.hid (by rw [Lx.cellsT_append, Lx.cellsT_append, ← List.append_assoc]; exact (Rd.own hown7).mono fun _ _ _ => trivial); have HP7 := Lib.hid (Lx.rd_grown HP6.out hg7 (fun g e => HAT6.out.elim (fun h => .inl (Nat.lt_of_lt_of_le (HX2.out.lt g (h.symm.trans e)).2 HS3.out)) (fun h => .inr (by have e1 := Option.some.inj (h.symm.trans e); have := HS5.out; omega)))); have HB7 := Lib.hid (HB6.out.grown hg7 HB6.out.size (fun g e => Nat.le_trans HMB.out (World.ownsRow.lt HO6.out g e).1)); clear hown7 hg7 hat7 hnil7)
                | (go_at_call 8; go_must (refine (HTK2.out _ _ _ _ _ _ _ _ _ (by simp) (by simp; omega) HP7.out HR7.out).mono ?_; rintro e w8 ⟨rfl, hb8⟩; have HB8 := Lib.hid (HB7.out.trans (hb8.mono HB7.out.size)); clear hb8))
                | (go_at_call 9; go_must (refine (HK.out _).mono ?_; rintro e w9 ⟨rfl, hb9⟩; have HB9 := Lib.hid (HB8.out.trans (hb9.mono HB8.out.size)); clear hb9))
              go_ret
              exact ⟨rfl, HB9.out⟩
        · have e0 : (⟨#[40, 41, 44]⟩ : ByteArray)[1]'(by decide) = 41 := rfl
          have hcv3 : (convert 32 9 (.slice (some ⟨w.heap.size, 0, none⟩) 1 1)).run Tryd.prog (w.alloc (.cells #[.int .u8 41] 5)) = .ok (.string ⟨#[41]⟩) (w.alloc (.cells #[.int .u8 41] 5)) := hcv
          have HB1 : Hid (Below w.heap.size w (w.alloc (.cells #[.int .u8 41] 5))) := Lib.hid ((Below.refl _ _).alloc (Nat.le_refl _) _)
          clear hcv
          cases hxa : Lx.lex a with
          | none =>
            have HRA : Hid (Calls Tryd.prog 7 #[.string ⟨a.toArray⟩] (w.alloc (.cells #[.int .u8 41] 5)) fun e w' => ∃ v, e = .returned (.tuple #[v, .int .i64 8]) ∧ Below w.heap.size w w') := Lib.hid ((HRL.out a (by omega) _).mono fun e w' ⟨v, h1, _, h3⟩ => ⟨v, by rw [h1, (Lx.lex_no (by omega) hxa).1], HB1.out.trans (h3.mono HB1.out.size)⟩)
            have HRB : Hid (∀ W, Calls Tryd.prog 7 #[.string ⟨b.toArray⟩] W fun e w' => ∃ v, e = .returned (.tuple #[v, .int .i64 (Lx.lexErr b)]) ∧ Below W.heap.size W w') := Lib.hid fun W => (HRL.out b (by omega) W).mono fun e w' ⟨v, h1, _, h3⟩ => ⟨v, h1, h3⟩
            clear hxa
            generalize Lx.lexErr b = E at *
            go_wp2_with first
              | (go_at_call 7; (with_reducible refine HRA.out.mono ?_); rintro e w2 ⟨v1, rfl, hb1⟩; have HB2 := Lib.hid hb1; clear hb1)
              | (go_at_call 7; (with_reducible refine (HRB.out _).mono ?_); rintro e w3 ⟨v2, rfl, hb2⟩; have HB3 := Lib.hid (HB2.out.trans (hb2.mono HB2.out.size)); clear hb2)
              | (go_at_call 9; go_must (refine (HK.out _).mono ?_; rintro e w4 ⟨rfl, hb4⟩; have HB4 := Lib.hid (HB3.out.trans (hb4.mono HB3.out.size)); clear hb4))
            go_ret
            exact ⟨rfl, HB4.out⟩
          | some x =>
            have hxl := Lx.lex_count hxa
            have HRA : Hid (Calls Tryd.prog 7 #[.string ⟨a.toArray⟩] (w.alloc (.cells #[.int .u8 41] 5)) fun e w' => ∃ v, e = .returned (.tuple #[v, .int .i64 0]) ∧ Lx.OwnT 43 (w.alloc (.cells #[.int .u8 41] 5)).heap.size w' v x ∧ Below w.heap.size w w' ∧ (w.alloc (.cells #[.int .u8 41] 5)).heap.size ≤ w'.heap.size) := Lib.hid ((HRL.out a (by omega) _).mono fun e w' ⟨v, h1, h2, h3⟩ => ⟨v, by rw [h1, (Lx.lex_yes (by omega) hxa).1], by rwa [(Lx.lex_yes (by omega) hxa).2] at h2, HB1.out.trans (h3.mono HB1.out.size), h3.size⟩)
            cases hxb : Lx.lex b with
            | none =>
              have HRB : Hid (∀ W, Calls Tryd.prog 7 #[.string ⟨b.toArray⟩] W fun e w' => ∃ v, e = .returned (.tuple #[v, .int .i64 8]) ∧ Below W.heap.size W w') := Lib.hid fun W => (HRL.out b (by omega) W).mono fun e w' ⟨v, h1, _, h3⟩ => ⟨v, by rw [h1, (Lx.lex_no (by omega) hxb).1], h3⟩
              clear hxa hxb
              go_wp2_with first
                | (go_at_call 7; (with_reducible refine HRA.out.mono ?_); rintro e w2 ⟨v1, rfl, ho1, hb1, hz1⟩; have HB2 := Lib.hid hb1; clear hb1 ho1 hz1)
                | (go_at_call 7; (with_reducible refine (HRB.out _).mono ?_); rintro e w3 ⟨v2, rfl, hb2⟩; have HB3 := Lib.hid (HB2.out.trans (hb2.mono HB2.out.size)); clear hb2)
                | (go_at_call 9; go_must (refine (HK.out _).mono ?_; rintro e w4 ⟨rfl, hb4⟩; have HB4 := Lib.hid (HB3.out.trans (hb4.mono HB3.out.size)); clear hb4))
              go_ret
              exact ⟨rfl, HB4.out⟩
            | some y =>
              have hyl := Lx.lex_count hxb
              obtain ⟨z, hz⟩ : ∃ z, Lx.lex [41] = some z := ⟨_, rfl⟩
              have hzl := Lx.lex_count hz
              have hzl : z.length ≤ 1 := hzl
              obtain ⟨p1, hp1⟩ : ∃ p1, p1 = l ++ a := ⟨_, rfl⟩
              obtain ⟨p2, hp2⟩ : ∃ p2, p2 = p1 ++ l := ⟨_, rfl⟩
              obtain ⟨p3, hp3⟩ : ∃ p3, p3 = p2 ++ [41] := ⟨_, rfl⟩
              obtain ⟨p4, hp4⟩ : ∃ p4, p4 = p3 ++ l := ⟨_, rfl⟩
              obtain ⟨p5, hp5⟩ : ∃ p5, p5 = p4 ++ b := ⟨_, rfl⟩
              obtain ⟨p6, hp6⟩ : ∃ p6, p6 = p5 ++ l := ⟨_, rfl⟩
              have q1 := Lx.cat hp1
              have q2 := Lx.cat hp2
              have q3 : (⟨p2.toArray⟩ : ByteArray) ++ ⟨#[41]⟩ = ⟨p3.toArray⟩ := Lx.cat hp3
              have q4 := Lx.cat hp4
              have q5 := Lx.cat hp5
              have q6 := Lx.cat hp6
              have n1 : p1.length ≤ 350 := by rw [hp1]; simp; omega
              have n2 : p2.length ≤ 400 := by rw [hp2]; simp; omega
              have n3 : p3.length ≤ 401 := by rw [hp3]; simp; omega
              have n4 : p4.length ≤ 451 := by rw [hp4]; simp; omega
              have n5 : p5.length ≤ 751 := by rw [hp5]; simp; omega
              have n6 : p6.length ≤ 801 := by rw [hp6]; simp; omega
              have hlx : Lx.lex p6 = some (x ++ (z ++ y)) := by
                rw [hp6, hp5, hp4, hp3, hp2, hp1, HL.out]
                exact Lx.lex_blanks HSG.out i hxa hxb hz
              have HRB : Hid (∀ W, Calls Tryd.prog 7 #[.string ⟨b.toArray⟩] W fun e w' => ∃ v, e = .returned (.tuple #[v, .int .i64 0]) ∧ Lx.OwnT 43 W.heap.size w' v y ∧ Below W.heap.size W w') := Lib.hid fun W => (HRL.out b (by omega) W).mono fun e w' ⟨v, h1, h2, h3⟩ => ⟨v, by rw [h1, (Lx.lex_yes (by omega) hxb).1], by rwa [(Lx.lex_yes (by omega) hxb).2] at h2, h3⟩
              have HRC : Hid (∀ W, Calls Tryd.prog 7 #[.string ⟨#[41]⟩] W fun e w' => ∃ v, e = .returned (.tuple #[v, .int .i64 0]) ∧ Lx.OwnT 43 W.heap.size w' v z ∧ Below W.heap.size W w') := Lib.hid fun W => (HRL.out [41] (by simp) W).mono fun e w' ⟨v, h1, h2, h3⟩ => ⟨v, by rw [h1, (Lx.lex_yes (by simp) hz).1], by rwa [(Lx.lex_yes (by simp) hz).2] at h2, h3⟩
              have HRP : Hid (∀ W, Calls Tryd.prog 6 #[.string ⟨p6.toArray⟩] W fun e w' => ∃ v, e = .returned (.tuple #[v, .int .i64 0]) ∧ Lx.OwnT 40 W.heap.size w' v (x ++ (z ++ y)) ∧ Below W.heap.size W w') := Lib.hid fun W => (HPL.out p6 (by omega) W).mono fun e w' ⟨v, h1, h2, h3⟩ => ⟨v, by rw [h1, (Lx.lex_yes (by omega) hlx).1], by rwa [(Lx.lex_yes (by omega) hlx).2] at h2, h3⟩
              clear hxa hxb hz hp1 hp2 hp3 hp4 hp5 hp6 hlx
              obtain ⟨i0, hi0, hz0, hz1, hz2⟩ := info_parts Lx.reftokinfo
              have HI := Lib.hid hi0
              have HZ := Lib.hid (And.intro hz0 (And.intro hz1 hz2))
              clear hi0 hz0 hz1 hz2
              obtain ⟨m0, hm0⟩ : ∃ m0, Hid (m0 = (w.alloc (.cells #[.int .u8 41] 5)).heap.size) := ⟨_, Lib.hid rfl⟩
              have HMB : Hid (w.heap.size ≤ m0) := Lib.hid (by rw [hm0.out]; exact HB1.out.size)
              have HTK2 : Hid (∀ (A B : Option Addr) (ca cb n1 n2 : Nat) (W : World) (G H : Nat → Prop), n1 = (x ++ (z ++ y)).length → n2 = (x ++ (z ++ y)).length → Rd W G A (Lx.cellsT (x ++ (z ++ y))) → Rd W H B (Lx.cellsT (x ++ (z ++ y))) → Calls Tryd.prog 8 #[.slice A n1 ca, .slice B n2 cb] W fun e w' => e = .returned (.bool true) ∧ Below W.heap.size W w') := Lib.hid fun A B ca cb n1 n2 W G H e1 e2 h1 h2 => by
                subst e1 e2
                refine (HTK.out _ _ A B ca cb W G H h1 h2 (by simp; omega) (by simp; omega)).mono ?_
                rintro e w' ⟨rfl, hb⟩
                exact ⟨by simp, hb⟩
              go_wp2_with first
                | (go_at_call 7; (with_reducible refine HRA.out.mono ?_); rintro e w2 ⟨v1, rfl, ho1, hb1, hz1⟩; obtain ⟨A1, c1, rfl⟩ := ho1.form; have HM2 : Hid (m0 ≤ w2.heap.size) := Lib.hid (by rw [hm0.out]; exact hz1); rw [← hm0.out] at ho1; have HX2 := Lib.hid ho1; have HB2 := Lib.hid hb1; clear hb1 ho1 hz1)
                | (go_at_call 7; (with_reducible refine (HRB.out _).mono ?_); rintro e w3 ⟨v2, rfl, ho2, hb2⟩; obtain ⟨A2, c2, rfl⟩ := ho2.form; have HY3 := Lib.hid ho2; have HX3 := Lib.hid (HX2.out.below hb2); have HB3 := Lib.hid (HB2.out.trans (hb2.mono HB2.out.size)); have HS3 := Lib.hid hb2.size; clear hb2 ho2)
                | (go_at_call 6; go_must (refine (HRP.out _).mono ?_; rintro e w4 ⟨v3, rfl, ho3, hb3⟩; obtain ⟨A3, c3, rfl⟩ := ho3.form; have HP4 := Lib.hid ho3; have HX4 := Lib.hid (HX3.out.below hb3); have HY4 := Lib.hid (HY3.out.rdIn.below hb3); have HB4 := Lib.hid (HB3.out.trans (hb3.mono HB3.out.size)); have HS4 := Lib.hid hb3.size; clear hb3 ho3))
                | (go_at_call 7; (with_reducible refine (HRC.out _).mono ?_); rintro e w5 ⟨v4, rfl, ho4, hb4⟩; obtain ⟨A4, c4, rfl⟩ := ho4.form; have HZ5 := Lib.hid ho4; have HX5 := Lib.hid (HX4.out.below hb4); have HY5 := Lib.hid (HY4.out.below hb4); have HP5 := Lib.hid (HP4.out.rdIn.below hb4); have HB5 := Lib.hid (HB4.out.trans (hb4.mono HB4.out.size)); have HS5 := Lib.hid hb4.size; clear hb4 ho4)
                | (at_builtin; refine Lx.wpList_app_g rfl (.tmp 90) (.tmp 91) 26 rfl m0 43 i0 _ 2 24 Tryd.underlying26 HI.out HZ.out.1 HZ.out.2.1 HZ.out.2.2 rfl (by decide) (.slice A1 x.length c1) x.length (Lx.cellsT x) (by simp [Act.eval]) HX5.out (Lx.In w4.heap.size w5.heap.size) A4 z.length c4 (Lx.cellsT z) (by simp [Act.eval]) (Lx.cellsT_len _) HZ5.out.rdIn (Lx.cellsT_one _) (by unfold maxLen; omega) (by omega) (by have h1 := HB2.out.size; have h2 := HS3.out; have h3 := HS4.out; have h4 := HS5.out; have h5 := HM2.out; omega) ?_; intro v6 w6 hown6 hg6 hat6 hnil6; obtain ⟨A6, c6, rfl⟩ := Lx.own_sl hown6; have HO6 := Lib.hid hown6; have HY6 := Lib.hid (Lx.rd_grown HY5.out hg6 (fun g e => .inl (HX2.out.lt g e).2)); have HP6 := Lib.hid (Lx.rd_grown HP5.out hg6 (fun g e => .inl (Nat.lt_of_lt_of_le (HX2.out.lt g e).2 HS3.out))); have HAT6 := Lib.hid hat6; have HB6 := Lib.hid (HB5.out.grown hg6 HB5.out.size (fun g e => Nat.le_trans HMB.out (HX2.out.lt g e).1)); have HS6 := Lib.hid hg6.size; clear hown6 hg6 hat6 hnil6)
                | (at_builtin; refine Lx.wpList_app_g rfl (.tmp 92) (.tmp 93) 26 rfl m0 43 i0 _ 2 24 Tryd.underlying26 HI.out HZ.out.1 HZ.out.2.1 HZ.out.2.2 rfl (by decide) (.slice A6 (x.length + z.length) c6) (x.length + z.length) (Lx.cellsT x ++ Lx.cellsT z) (by simp [Act.eval]) HO6.out (Lx.In w2.heap.size w3.heap.size) A2 y.length c2 (Lx.cellsT y) (by simp [Act.eval]) (Lx.cellsT_len _) HY6.out (Lx.cellsT_one _) (by unfold maxLen; omega) (by omega) (by have h1 := HB2.out.size; have h2 := HS3.out; have h3 := HS4.out; have h4 := HS5.out; have h5 := HM2.out; have h6 := HS6.out; omega) ?_; intro v7 w7 hown7 hg7 hat7 hnil7; obtain ⟨A7, c7, rfl⟩ := Lx.own_sl hown7; have HR7 : Hid (Rd w7 (fun _ => True) A7 (Lx.cellsT (x ++ (z ++ y)))) := Lib.hid (by rw [Lx.cellsT_append, Lx.cellsT_append, ← List.append_assoc]; exact (Rd.own hown7).mono fun _ _ _ => trivial); have HP7 := Lib.hid (Lx.rd_grown HP6.out hg7 (fun g e => HAT6.out.elim (fun h => .inl (Nat.lt_of_lt_of_le (HX2.out.lt g (h.symm.trans e)).2 HS3.out)) (fun h => .inr (by have e1 := Option.some.inj (h.symm.trans e); have := HS5.out; omega)))); have HB7 := Lib.hid (HB6.out.grown hg7 HB6.out.size (fun g e => Nat.le_trans HMB.out (World.ownsRow.lt HO6.out g e).1)); clear hown7 hg7 hat7 hnil7)
                | (go_at_call 8; go_must (refine (HTK2.out _ _ _ _ _ _ _ _ _ (by simp) (by simp; omega) HP7.out HR7.out).mono ?_; rintro e w8 ⟨rfl, hb8⟩; have HB8 := Lib.hid (HB7.out.trans (hb8.mono HB7.out.size)); clear hb8))
                | (go_at_call 9; go_must (refine (HK.out _).mono ?_; rintro e w9 ⟨rfl, hb9⟩; have HB9 := Lib.hid (HB8.out.trans (hb9.mono HB8.out.size)); clear hb9))
              go_ret
              exact ⟨rfl, HB9.out⟩
        · have e0 : (⟨#[40, 41, 44]⟩ : ByteArray)[2]'(by decide) = 44 := rfl
          have hcv3 : (convert 32 9 (.slice (some ⟨w.heap.size, 0, none⟩) 1 1)).run Tryd.prog (w.alloc (.cells #[.int .u8 44] 5)) = .ok (.string ⟨#[44]⟩) (w.alloc (.cells #[.int .u8 44] 5)) := hcv
          have HB1 : Hid (Below w.heap.size w (w.alloc (.cells #[.int .u8 44] 5))) := Lib.hid ((Below.refl _ _).alloc (Nat.le_refl _) _)
          clear hcv
          cases hxa : Lx.lex a with
          | none =>
            have HRA : Hid (Calls Tryd.prog 7 #[.string ⟨a.toArray⟩] (w.alloc (.cells #[.int .u8 44] 5)) fun e w' => ∃ v, e = .returned (.tuple #[v, .int .i64 8]) ∧ Below w.heap.size w w') := Lib.hid ((HRL.out a (by omega) _).mono fun e w' ⟨v, h1, _, h3⟩ => ⟨v, by rw [h1, (Lx.lex_no (by omega) hxa).1], HB1.out.trans (h3.mono HB1.out.size)⟩)
            have HRB : Hid (∀ W, Calls Tryd.prog 7 #[.string ⟨b.toArray⟩] W fun e w' => ∃ v, e = .returned (.tuple #[v, .int .i64 (Lx.lexErr b)]) ∧ Below W.heap.size W w') := Lib.hid fun W => (HRL.out b (by omega) W).mono fun e w' ⟨v, h1, _, h3⟩ => ⟨v, h1, h3⟩
            clear hxa
            generalize Lx.lexErr b = E at *
            go_wp2_with first
              | (go_at_call 7; (with_reducible refine HRA.out.mono ?_); rintro e w2 ⟨v1, rfl, hb1⟩; have HB2 := Lib.hid hb1; clear hb1)
              | (go_at_call 7; (with_reducible refine (HRB.out _).mono ?_); rintro e w3 ⟨v2, rfl, hb2⟩; have HB3 := Lib.hid (HB2.out.trans (hb2.mono HB2.out.size)); clear hb2)
              | (go_at_call 9; go_must (refine (HK.out _).mono ?_; rintro e w4 ⟨rfl, hb4⟩; have HB4 := Lib.hid (HB3.out.trans (hb4.mono HB3.out.size)); clear hb4))
            go_ret
            exact ⟨rfl, HB4.out⟩
          | some x =>
            have hxl := Lx.lex_count hxa
            have HRA : Hid (Calls Tryd.prog 7 #[.string ⟨a.toArray⟩] (w.alloc (.cells #[.int .u8 44] 5)) fun e w' => ∃ v, e = .returned (.tuple #[v, .int .i64 0]) ∧ Lx.OwnT 43 (w.alloc (.cells #[.int .u8 44] 5)).heap.size w' v x ∧ Below w.heap.size w w' ∧ (w.alloc (.cells #[.int .u8 44] 5)).heap.size ≤ w'.heap.size) := Lib.hid ((HRL.out a (by omega) _).mono fun e w' ⟨v, h1, h2, h3⟩ => ⟨v, by rw [h1, (Lx.lex_yes (by omega) hxa).1], by rwa [(Lx.lex_yes (by omega) hxa).2] at h2, HB1.out.trans (h3.mono HB1.out.size), h3.size⟩)
            cases hxb : Lx.lex b with
            | none =>
              have HRB : Hid (∀ W, Calls Tryd.prog 7 #[.string ⟨b.toArray⟩] W fun e w' => ∃ v, e = .returned (.tuple #[v, .int .i64 8]) ∧ Below W.heap.size W w') := Lib.hid fun W => (HRL.out b (by omega) W).mono fun e w' ⟨v, h1, _, h3⟩ => ⟨v, by rw [h1, (Lx.lex_no (by omega) hxb).1], h3⟩
              clear hxa hxb
              go_wp2_with first
                | (go_at_call 7; (with_reducible refine HRA.out.mono ?_); rintro e w2 ⟨v1, rfl, ho1, hb1, hz1⟩; have HB2 := Lib.hid hb1; clear hb1 ho1 hz1)
                | (go_at_call 7; (with_reducible refine (HRB.out _).mono ?_); rintro e w3 ⟨v2, rfl, hb2⟩; have HB3 := Lib.hid (HB2.out.trans (hb2.mono HB2.out.size)); clear hb2)
                | (go_at_call 9; go_must (refine (HK.out _).mono ?_; rintro e w4 ⟨rfl, hb4⟩; have HB4 := Lib.hid (HB3.out.trans (hb4.mono HB3.out.size)); clear hb4))
              go_ret
              exact ⟨rfl, HB4.out⟩
            | some y =>
              have hyl := Lx.lex_count hxb
              obtain ⟨z, hz⟩ : ∃ z, Lx.lex [44] = some z := ⟨_, rfl⟩
              have hzl := Lx.lex_count hz
              have hzl : z.length ≤ 1 := hzl
              obtain ⟨p1, hp1⟩ : ∃ p1, p1 = l ++ a := ⟨_, rfl⟩
              obtain ⟨p2, hp2⟩ : ∃ p2, p2 = p1 ++ l := ⟨_, rfl⟩
              obtain ⟨p3, hp3⟩ : ∃ p3, p3 = p2 ++ [44] := ⟨_, rfl⟩
              obtain ⟨p4, hp4⟩ : ∃ p4, p4 = p3 ++ l := ⟨_, rfl⟩
              obtain ⟨p5, hp5⟩ : ∃ p5, p5 = p4 ++ b := ⟨_, rfl⟩
              obtain ⟨p6, hp6⟩ : ∃ p6, p6 = p5 ++ l := ⟨_, rfl⟩
              have q1 := Lx.cat hp1
              have q2 := Lx.cat hp2
              have q3 : (⟨p2.toArray⟩ : ByteArray) ++ ⟨#[44]⟩ = ⟨p3.toArray⟩ := Lx.cat hp3
              have q4 := Lx.cat hp4
              have q5 := Lx.cat hp5
              have q6 := Lx.cat hp6
              have n1 : p1.length ≤ 350 := by rw [hp1]; simp; omega
              have n2 : p2.length ≤ 400 := by rw [hp2]; simp; omega
              have n3 : p3.length ≤ 401 := by rw [hp3]; simp; omega
              have n4 : p4.length ≤ 451 := by rw [hp4]; simp; omega
              have n5 : p5.length ≤ 751 := by rw [hp5]; simp; omega
              have n6 : p6.length ≤ 801 := by rw [hp6]; simp; omega
              have hlx : Lx.lex p6 = some (x ++ (z ++ y)) := by
                rw [hp6, hp5, hp4, hp3, hp2, hp1, HL.out]
                exact Lx.lex_blanks HSG.out i hxa hxb hz
              have HRB : Hid (∀ W, Calls Tryd.prog 7 #[.string ⟨b.toArray⟩] W fun e w' => ∃ v, e = .returned (.tuple #[v, .int .i64 0]) ∧ Lx.OwnT 43 W.heap.size w' v y ∧ Below W.heap.size W w') := Lib.hid fun W => (HRL.out b (by omega) W).mono fun e w' ⟨v, h1, h2, h3⟩ => ⟨v, by rw [h1, (Lx.lex_yes (by omega) hxb).1], by rwa [(Lx.lex_yes (by omega) hxb).2] at h2, h3⟩
              have HRC : Hid (∀ W, Calls Tryd.prog 7 #[.string ⟨#[44]⟩] W fun e w' => ∃ v, e = .returned (.tuple #[v, .int .i64 0]) ∧ Lx.OwnT 43 W.heap.size w' v z ∧ Below W.heap.size W w') := Lib.hid fun W => (HRL.out [44] (by simp) W).mono fun e w' ⟨v, h1, h2, h3⟩ => ⟨v, by rw [h1, (Lx.lex_yes (by simp) hz).1], by rwa [(Lx.lex_yes (by simp) hz).2] at h2, h3⟩
              have HRP : Hid (∀ W, Calls Tryd.prog 6 #[.string ⟨p6.toArray⟩] W fun e w' => ∃ v, e = .returned (.tuple #[v, .int .i64 0]) ∧ Lx.OwnT 40 W.heap.size w' v (x ++ (z ++ y)) ∧ Below W.heap.size W w') := Lib.hid fun W => (HPL.out p6 (by omega) W).mono fun e w' ⟨v, h1, h2, h3⟩ => ⟨v, by rw [h1, (Lx.lex_yes (by omega) hlx).1], by rwa [(Lx.lex_yes (by omega) hlx).2] at h2, h3⟩
              clear hxa hxb hz hp1 hp2 hp3 hp4 hp5 hp6 hlx
              obtain ⟨i0, hi0, hz0, hz1, hz2⟩ := info_parts Lx.reftokinfo
              have HI := Lib.hid hi0
              have HZ := Lib.hid (And.intro hz0 (And.intro hz1 hz2))
              clear hi0 hz0 hz1 hz2
              obtain ⟨m0, hm0⟩ : ∃ m0, Hid (m0 = (w.alloc (.cells #[.int .u8 44] 5)).heap.size) := ⟨_, Lib.hid rfl⟩
              have HMB : Hid (w.heap.size ≤ m0) := Lib.hid (by rw [hm0.out]; exact HB1.out.size)
              have HTK2 : Hid (∀ (A B : Option Addr) (ca cb n1 n2 : Nat) (W : World) (G H : Nat → Prop), n1 = (x ++ (z ++ y)).length → n2 = (x ++ (z ++ y)).length → Rd W G A (Lx.cellsT (x ++ (z ++ y))) → Rd W H B (Lx.cellsT (x ++ (z ++ y))) → Calls Tryd.prog 8 #[.slice A n1 ca, .slice B n2 cb] W fun e w' => e = .returned (.bool true) ∧ Below W.heap.size W w') := Lib.hid fun A B ca cb n1 n2 W G H e1 e2 h1 h2 => by
                subst e1 e2
                refine (HTK.out _ _ A B ca cb W G H h1 h2 (by simp; omega) (by simp; omega)).mono ?_
                rintro e w' ⟨rfl, hb⟩
                exact ⟨by simp, hb⟩
              go_wp2_with first
                | (go_at_call 7; (with_reducible refine HRA.out.mono ?_); rintro e w2 ⟨v1, rfl, ho1, hb1, hz1⟩; obtain ⟨A1, c1, rfl⟩ := ho1.form; have HM2 : Hid (m0 ≤ w2.heap.size) := Lib.hid (by rw [hm0.out]; exact hz1); rw [← hm0.out] at ho1; have HX2 := Lib.hid ho1; have HB2 := Lib.hid hb1; clear hb1 ho1 hz1)
                | (go_at_call 7; (with_reducible refine (HRB.out _).mono ?_); rintro e w3 ⟨v2, rfl, ho2, hb2⟩; obtain ⟨A2, c2, rfl⟩ := ho2.form; have HY3 := Lib.hid ho2; have HX3 := Lib.hid (HX2.out.below hb2); have HB3 := Lib.hid (HB2.out.trans (hb2.mono HB2.out.size)); have HS3 := Lib.hid hb2.size; clear hb2 ho2)
                | (go_at_call 6; go_must (refine (HRP.out _).mono ?_; rintro e w4 ⟨v3, rfl, ho3, hb3⟩; obtain ⟨A3, c3, rfl⟩ := ho3.form; have HP4 := Lib.hid ho3; have HX4 := Lib.hid (HX3.out.below hb3); have HY4 := Lib.hid (HY3.out.rdIn.below hb3); have HB4 := Lib.hid (HB3.out.trans (hb3.mono HB3.out.size)); have HS4 := Lib.hid hb3.size; clear hb3 ho3))
                | (go_at_call 7; (with_reducible refine (HRC.out _).mono ?_); rintro e w5 ⟨v4, rfl, ho4, hb4⟩; obtain ⟨A4, c4, rfl⟩ := ho4.form; have HZ5 := Lib.hid ho4; have HX5 := Lib.hid (HX4.out.below hb4); have HY5 := Lib.hid (HY4.out.below hb4); have HP5 := Lib.hid (HP4.out.rdIn.below hb4); have HB5 := Lib.hid (HB4.out.trans (hb4.mono HB4.out.size)); have HS5 := Lib.hid hb4.size; clear hb4 ho4)
                | (at_builtin; refine Lx.wpList_app_g rfl (.tmp 90) (.tmp 91) 26 rfl m0 43 i0 _ 2 24 Tryd.underlying26 HI.out HZ.out.1 HZ.out.2.1 HZ.out.2.2 rfl (by decide) (.slice A1 x.length c1) x.length (Lx.cellsT x) (by simp [Act.eval]) HX5.out (Lx.In w4.heap.size w5.heap.size) A4 z.length c4 (Lx.cellsT z) (by simp [Act.eval]) (Lx.cellsT_len _) HZ5.out.rdIn (Lx.cellsT_one _) (by unfold maxLen; omega) (by omega) (by have h1 := HB2.out.size; have h2 := HS3.out; have h3 := HS4.out; have h4 := HS5.out; have h5 := HM2.out; omega) ?_; intro v6 w6 hown6 hg6 hat6 hnil6; obtain ⟨A6, c6, rfl⟩ := Lx.own_sl hown6; have HO6 := Lib.hid hown6; have HY6 := Lib.hid (Lx.rd_grown HY5.out hg6 (fun g e => .inl (HX2.out.lt g e).2)); have HP6 := Lib.hid (Lx.rd_grown HP5.out hg6 (fun g e => .inl (Nat.lt_of_lt_of_le (HX2.out.lt g e).2 HS3.out))); have HAT6 := Lib.hid hat6; have HB6 := Lib.hid (HB5.out.grown hg6 HB5.out.size (fun g e => Nat.le_trans HMB.out (HX2.out.lt g e).1)); have HS6 := Lib.hid hg6.size; clear hown6 hg6 hat6 hnil6)
                | (at_builtin; refine Lx.wpList_app_g rfl (.tmp 92) (.tmp 93) 26 rfl m0 43 i0 _ 2 24 Tryd.underlying26 HI.out HZ.out.1 HZ.out.2.1 HZ.out.2.2 rfl (by decide) (.slice A6 (x.length + z.length) c6) (x.length + z.length) (Lx.cellsT x ++ Lx.cellsT z) (by simp [Act.eval]) HO6.out (Lx.In w2.heap.size w3.heap.size) A2 y.length c2 (Lx.cellsT y) (by simp [Act.eval]) (Lx.cellsT_len _) HY6.out (Lx.cellsT_one _) (by unfold maxLen; omega) (by omega) (by have h1 := HB2.out.size; have h2 := HS3.out; have h3 := HS4.out; have h4 := HS5.out; have h5 := HM2.out; have h6 := HS6.out; omega) ?_; intro v7 w7 hown7 hg7 hat7 hnil7; obtain ⟨A7, c7, rfl⟩ := Lx.own_sl hown7; have HR7 : Hid (Rd w7 (fun _ => True) A7 (Lx.cellsT (x ++ (z ++ y)))) := Lib.hid (by rw [Lx.cellsT_append, Lx.cellsT_append, ← List.append_assoc]; exact (Rd.own hown7).mono fun _ _ _ => trivial); have HP7 := Lib.hid (Lx.rd_grown HP6.out hg7 (fun g e => HAT6.out.elim (fun h => .inl (Nat.lt_of_lt_of_le (HX2.out.lt g (h.symm.trans e)).2 HS3.out)) (fun h => .inr (by have e1 := Option.some.inj (h.symm.trans e); have := HS5.out; omega)))); have HB7 := Lib.hid (HB6.out.grown hg7 HB6.out.size (fun g e => Nat.le_trans HMB.out (World.ownsRow.lt HO6.out g e).1)); clear hown7 hg7 hat7 hnil7)
                | (go_at_call 8; go_must (refine (HTK2.out _ _ _ _ _ _ _ _ _ (by simp) (by simp; omega) HP7.out HR7.out).mono ?_; rintro e w8 ⟨rfl, hb8⟩; have HB8 := Lib.hid (HB7.out.trans (hb8.mono HB7.out.size)); clear hb8))
                | (go_at_call 9; go_must (refine (HK.out _).mono ?_; rintro e w9 ⟨rfl, hb9⟩; have HB9 := Lib.hid (HB8.out.trans (hb9.mono HB8.out.size)); clear hb9))
              go_ret
              exact ⟨rfl, HB9.out⟩
end Go.Proofs.YtcbpdefpknckgaaDoor
