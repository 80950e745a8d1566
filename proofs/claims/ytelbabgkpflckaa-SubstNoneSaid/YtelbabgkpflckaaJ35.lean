/-
  RcSetA: CONTRACTS: chapter 12, the document's Compile: set, for every expression (existential at a dot, a class, a stroke).
  PkFin: CHAPTER 12, LAWS: PikeFinds.
-/
import Derived.Test.YtelbabgkpflckaaJ34
import Derived.Test.YtelbabgkpflckaaJ13
import Derived.Test.YtelbabgkpflckaaJ27

set_option linter.unusedSimpArgs false
set_option linter.unusedVariables false
namespace Go.Proofs.Ytelbabgkpflckaa
open Go.RowKit Go.Sort
open Me
open Pk

theorem class_any {w : World} {b : Nat} {v : Value} {r : Rc.Rr} (h : Rc.At w b v r) (hl : r.s.length ≤ 1000000) (ha : r.at_ < r.s.length) :
    Calls Try.prog 72 #[.pointer (some ⟨b, 0, none⟩)] w (Rc.ClsR w b v r) := by
  cases hq : Rc.more { r with at_ := r.at_ + 1 } 94
  · exact class_no h hl ha hq
  · exact class_yes h hl ha hq

set_option maxRecDepth 100000 in
set_option maxHeartbeats 8000000 in
theorem set_sign {w : World} {b : Nat} {v : Value} {r : Rc.Rr} (h : Rc.At w b v r) (hl : r.s.length ≤ 4096) {c : UInt8} (hc : r.s[r.at_]? = some c) (hs : c = 46 ∨ c = 91 ∨ c = 92) :
    Calls Try.prog 70 #[.pointer (some ⟨b, 0, none⟩)] w (Rc.SetR w b v r) := by
  obtain ⟨w0, hw0⟩ : ∃ w0, w0 = (w.alloc (.cells Try.zeroCells125 125)).alloc (.cells Try.zeroCells125 125) := ⟨_, rfl⟩
  obtain ⟨n0, hn0⟩ : ∃ n0, n0 = w.heap.size := ⟨_, rfl⟩
  have hbl := h.lt
  have HB0 : Hid (Below w.heap.size w w0) := Lib.hid (by rw [hw0]; exact ((Below.refl _ _).alloc (Nat.le_refl _) _).alloc (by simp) _)
  have HR0 : Hid (RowAt w0 n0 125 (Rx.cel Rx.none_)) := Lib.hid (by rw [hw0, ← z_b256, hn0]; exact (RowAt.new w _ _).alloc _)
  have HR1 : Hid (RowAt w0 (n0 + 1) 125 (Rx.cel Rx.none_)) := Lib.hid (by rw [hw0, ← z_b256, hn0]; exact RowAt.new' (by simp))
  have HD0 := Lib.hid ((Rc.Did.refl h).on HB0.out)
  have HAW := Lib.hid h
  have hRP : ∀ (m : Rx.St) (ok : Bool) (n : Nat) (w' : World), Rc.Did w b v { r with at_ := r.at_ + n } v w' → r.at_ + n ≤ r.s.length → (ok = true → 1 ≤ n) → Rc.SetR w b v r (.returned (.tuple #[.agg (Rx.cel m), .bool ok])) w' := fun m ok n w' q1 q2 q3 => ⟨m, ok, n, rfl, q1, q2, q3, fun x hx n1 n2 n3 => by
    rw [hc] at hx
    have hx := Option.some.inj hx
    subst hx
    rcases hs with h | h | h
    · exact absurd h n1
    · exact absurd h n2
    · exact absurd h n3⟩
  have HRP := Lib.hid hRP
  obtain ⟨s, i, d, er, g, L⟩ := r
  have c0 : w0.cell? ⟨b, 0, none⟩ = some (.string ⟨s.toArray⟩) := HD0.out.at_.c0
  have c1 : w0.cell? ⟨b, 1, none⟩ = some (.int .i64 (i : Int)) := HD0.out.at_.c1
  have f1 := HD0.out.at_.fz 1
  have hl : s.length ≤ 4096 := hl
  have hc : s[i]? = some c := hc
  have hil := (List.getElem?_eq_some_iff.1 hc).1
  have HIL := Lib.hid hil
  obtain ⟨z0, g0⟩ := Rc.byte_at hc
  obtain ⟨i1, hi1⟩ : ∃ i1 : Nat, i1 = i + 1 := ⟨_, rfl⟩
  have hwi : IntKind.i64.wrap ((i : Int) + 1) = (i1 : Int) := by rw [IntKind.wrap_i64]; omega
  have hiI : (i : Int) < (s.length : Int) := by omega
  have hi0 : (0 : Int) ≤ (i : Int) := by omega
  have HI1 := Lib.hid hi1
  have HN0 := Lib.hid hn0
  have hb1 : b < n0 := by omega
  clear h hc hi1 hRP hil
  rcases hs with rfl | rfl | rfl
  · go_enter Try.func70, Try.ntmps70
    go_wp2_with fail
    rw [← hw0, ← hn0]
    clear hw0 hn0
    go_quiet (fail)
    rename_i nq
    have HD1 := Lib.hid ((HD0.out.drewN nq).set1 i1)
    have HR0q : Hid (RowAt ((w0.drewN nq).setCell ⟨b, 1, none⟩ (.int .i64 (i1 : Int))) n0 125 (Rx.cel Rx.none_)) := Lib.hid ((HR0.out.drewN nq).far (by show n0 ≠ b; omega) _)
    have HR1q : Hid (RowAt ((w0.drewN nq).setCell ⟨b, 1, none⟩ (.int .i64 (i1 : Int))) (n0 + 1) 125 (Rx.cel Rx.none_)) := Lib.hid ((HR1.out.drewN nq).far (by show n0 + 1 ≠ b; omega) _)
    go_wp2_with fail
    generalize (w0.drewN nq).setCell ⟨b, 1, none⟩ (.int .i64 (i1 : Int)) = wl at *
    have hlb := HR1q.out.lt
    go_loopw [6] (fun y wz => ∃ k : Nat, y = .int .i64 (k : Int) ∧ k ≤ 256 ∧ Hid (∃ m', RowAt wz (n0 + 1) 125 (Rx.cel m')) ∧ Hid (Kp (fun i' => i' = n0 + 1) wl wz)) (fun y _ => 256 - (intOf y).toNat)
    case atStart => exact ⟨0, rfl, by omega, Lib.hid ⟨_, HR1q.out⟩, Lib.hid (Kp.refl _ _)⟩
    case round =>
      obtain ⟨k, rfl, hk, HM, HKQ⟩ := hrel
      obtain ⟨m', hm'⟩ := HM.out
      have HW := Lib.hid hm'
      clear HM
      by_cases hlt : k < 256
      · have hkI : (k : Int) < 256 := by omega
        have hk0 : (0 : Int) ≤ (k : Int) := by omega
        have hc : wr.cell? ⟨n0 + 1, k, none⟩ = some (.bool (m' k)) := (hm'.cell k).trans (Rx.cel_at _ k hlt)
        have hf := hm'.frozen k
        clear hm'
        go_wp2_with fail
        go_roundw
        case rel => exact ⟨k + 1, by go_num, by omega, Lib.hid ⟨_, Rc.turned HW.out k _⟩, Lib.hid (HKQ.out.setCell _ (.inr rfl) _)⟩
        case measure => simp [intOf]; omega
      · obtain rfl : k = 256 := by omega
        clear hm'
        have HDz := Lib.hid (Rc.Did.low HAW.out HD1.out (HKQ.out.below (by have := HD1.out.size; omega) (fun i' hi' e => by have e : i' = n0 + 1 := e; have := HN0.out; omega)))
        have HR0z : Hid (RowAt wr n0 125 (Rx.cel Rx.none_)) := Lib.hid ((HKQ.out.block n0 HR0q.out.lt (by omega)).trans HR0q.out)
        go_wp2_with first
          | ((with_reducible refine Rc.ldset (Rx.cel m') (Rx.cel_size _) ?_ (HW.out) ?_); (focus simp [Act.eval, Act.put]))
          | ((with_reducible refine Rc.stset (Rx.cel m') (Rx.cel Rx.none_) (Rx.cel_size _) (Rx.cel_one _) (Rx.cel_size _) ?_ ?_ (HR0z.out) ?_); (focus simp [Act.eval, Act.put]); (focus simp [Act.eval, Act.put]))
        ((try simp only [Exit.inBlock, Exit.then]); refine bodyPost_ret (Rc.ret_set2 rfl _ ?_ (Rc.row_setRow HR0z.out _) (Rx.cel_size _)) rfl ?_; (focus simp); simp only [Array.getD_eq_getD_getElem?])
        have hnn := HN0.out
        refine HRP.out m' true 1 _ ?_ (by show i + 1 ≤ s.length; have := HIL.out; omega) (fun _ => Nat.le_refl _)
        show Rc.Did w b v ⟨s, i + 1, d, er, g, L⟩ v _
        rw [← HI1.out]
        exact Rc.Did.low HAW.out HDz.out (Rc.below_setRow (Below.refl _ _) (by omega) _)
  · go_enter Try.func70, Try.ntmps70
    go_wp2_with fail
    rw [← hw0, ← hn0]
    clear hw0 hn0
    go_quiet (fail)
    rename_i nq
    have HDq := Lib.hid (HD0.out.drewN nq)
    have HR0q : Hid (RowAt (w0.drewN nq) n0 125 (Rx.cel Rx.none_)) := Lib.hid (HR0.out.drewN nq)
    generalize w0.drewN nq = wq at *
    have HCL := Lib.hid (class_any HDq.out.at_ (by show s.length ≤ 1000000; omega) (by show i < s.length; exact HIL.out))
    go_wp2_with fail
    go_at_call 72
    refine HCL.out.mono ?_
    rintro e w2 ⟨m, ok, n, rfl, hd, hn, hk⟩
    have HD2 := Lib.hid (HDq.out.trans hd)
    have HR02 : Hid (RowAt w2 n0 125 (Rx.cel Rx.none_)) := Lib.hid (hd.row HR0q.out (by omega) (fun e => by have := (HAW.out.olt n0 e).2; have := HN0.out; omega))
    have HN2 := Lib.hid hn
    have HK2 := Lib.hid hk
    clear hd hn hk
    go_wp2_with ((with_reducible refine Rc.stset (Rx.cel m) (Rx.cel Rx.none_) (Rx.cel_size _) (Rx.cel_one _) (Rx.cel_size _) ?_ ?_ (HR02.out) ?_); (focus simp [Act.eval, Act.put]); (focus simp [Act.eval, Act.put]))
    ((try simp only [Exit.inBlock, Exit.then]); refine bodyPost_ret (Rc.ret_set2 rfl _ ?_ (Rc.row_setRow HR02.out _) (Rx.cel_size _)) rfl ?_; (focus simp); simp only [Array.getD_eq_getD_getElem?])
    have hnn := HN0.out
    exact HRP.out m ok n _ (Rc.Did.low HAW.out HD2.out (Rc.below_setRow (Below.refl _ _) (by omega) _)) HN2.out HK2.out
  · go_enter Try.func70, Try.ntmps70
    go_wp2_with fail
    rw [← hw0, ← hn0]
    clear hw0 hn0
    go_quiet (fail)
    rename_i nq
    have HDq := Lib.hid (HD0.out.drewN nq)
    have HR0q : Hid (RowAt (w0.drewN nq) n0 125 (Rx.cel Rx.none_)) := Lib.hid (HR0.out.drewN nq)
    have HR1q : Hid (RowAt (w0.drewN nq) (n0 + 1) 125 (Rx.cel Rx.none_)) := Lib.hid (HR1.out.drewN nq)
    generalize w0.drewN nq = wq at *
    have HST := Lib.hid (stroke_any HDq.out.at_ (by show s.length ≤ 1000000; omega) (by show i < s.length; exact HIL.out))
    go_wp2_with fail
    go_at_call 73
    refine HST.out.mono ?_
    rintro e w2 ⟨x, m, ok, n, rfl, hd, hn, hk⟩
    have HD2 := Lib.hid (HDq.out.trans hd)
    have HR02 : Hid (RowAt w2 n0 125 (Rx.cel Rx.none_)) := Lib.hid (hd.row HR0q.out (by omega) (fun e => by have := (HAW.out.olt n0 e).2; have := HN0.out; omega))
    have HR12 : Hid (RowAt w2 (n0 + 1) 125 (Rx.cel Rx.none_)) := Lib.hid (hd.row HR1q.out (by omega) (fun e => by have := (HAW.out.olt (n0 + 1) e).2; have := HN0.out; omega))
    have HN2 := Lib.hid hn
    have HK2 := Lib.hid hk
    clear hd hn hk
    have HX0 : Hid (RowAt (w2.alloc (.cells Try.zeroCells125 125)) w2.heap.size 125 (Rx.cel Rx.none_)) := Lib.hid (by rw [← z_b256]; exact RowAt.new w2 _ _)
    have hsw : w.heap.size ≤ w2.heap.size := HD2.out.size
    have hl2 : n0 + 1 < w2.heap.size := HR12.out.lt
    have HXx : Hid (RowAt ((w2.alloc (.cells Try.zeroCells125 125)).setRow w2.heap.size (Rx.cel m)) w2.heap.size 125 (Rx.cel m)) := Lib.hid (Rc.row_setRow HX0.out (Rx.cel m))
    have HR0x : Hid (RowAt ((w2.alloc (.cells Try.zeroCells125 125)).setRow w2.heap.size (Rx.cel m)) n0 125 (Rx.cel Rx.none_)) := Lib.hid (Rc.row_setRow_far (HR02.out.alloc _) (by omega) _)
    have HR1x : Hid (RowAt ((w2.alloc (.cells Try.zeroCells125 125)).setRow w2.heap.size (Rx.cel m)) (n0 + 1) 125 (Rx.cel Rx.none_)) := Lib.hid (Rc.row_setRow_far (HR12.out.alloc _) (by omega) _)
    have HDx := Lib.hid (Rc.Did.low HAW.out HD2.out (Rc.below_setRow ((Below.refl _ _).alloc hsw (.cells Try.zeroCells125 125)) hsw (Rx.cel m)))
    cases ok
    · go_wp2_with first
        | ((with_reducible refine Rc.stset (Rx.cel m) (Rx.cel Rx.none_) (Rx.cel_size _) (Rx.cel_one _) (Rx.cel_size _) ?_ ?_ (HX0.out) ?_); (focus simp [Act.eval, Act.put]); (focus simp [Act.eval, Act.put]))
        | ((with_reducible refine Rc.ldset (Rx.cel Rx.none_) (Rx.cel_size _) ?_ (HR1x.out) ?_); (focus simp [Act.eval, Act.put]))
        | ((with_reducible refine Rc.stset (Rx.cel Rx.none_) (Rx.cel Rx.none_) (Rx.cel_size _) (Rx.cel_one _) (Rx.cel_size _) ?_ ?_ (HR0x.out) ?_); (focus simp [Act.eval, Act.put]); (focus simp [Act.eval, Act.put]))
      ((try simp only [Exit.inBlock, Exit.then]); refine bodyPost_ret (Rc.ret_set2 rfl _ ?_ (Rc.row_setRow HR0x.out _) (Rx.cel_size _)) rfl ?_; (focus simp); simp only [Array.getD_eq_getD_getElem?])
      have hnn := HN0.out
      exact HRP.out Rx.none_ false n _ (Rc.Did.low HAW.out HDx.out (Rc.below_setRow (Below.refl _ _) (by omega) _)) HN2.out (fun e => by cases e)
    · have hK : 1 ≤ n := HK2.out (by first | trivial | rfl)
      cases hal : Rc.alike m Rx.none_
      · have heq : ∀ w', (Op.equalIn 10000 125 (.agg (Rx.cel m)) (.agg (Rx.cel Rx.none_))).run Try.prog w' = .ok false w' := fun w' => by rw [Rc.eqcells, hal]
        clear hal
        go_wp2_with first
          | ((with_reducible refine Rc.stset (Rx.cel m) (Rx.cel Rx.none_) (Rx.cel_size _) (Rx.cel_one _) (Rx.cel_size _) ?_ ?_ (HX0.out) ?_); (focus simp [Act.eval, Act.put]); (focus simp [Act.eval, Act.put]))
          | ((with_reducible refine Rc.ldset (Rx.cel m) (Rx.cel_size _) ?_ (HXx.out) ?_); (focus simp [Act.eval, Act.put]))
          | ((with_reducible refine Rc.built_g rfl rfl ?_))
          | ((with_reducible refine Rc.stset (Rx.cel m) (Rx.cel Rx.none_) (Rx.cel_size _) (Rx.cel_one _) (Rx.cel_size _) ?_ ?_ (HR0x.out) ?_); (focus simp [Act.eval, Act.put]); (focus simp [Act.eval, Act.put]))
        ((try simp only [Exit.inBlock, Exit.then]); refine bodyPost_ret (Rc.ret_set2 rfl _ ?_ (Rc.row_setRow HR0x.out _) (Rx.cel_size _)) rfl ?_; (focus simp); simp only [Array.getD_eq_getD_getElem?])
        have hnn := HN0.out
        exact HRP.out m true n _ (Rc.Did.low HAW.out HDx.out (Rc.below_setRow (Below.refl _ _) (by omega) _)) HN2.out (fun _ => hK)
      · have heq : ∀ w', (Op.equalIn 10000 125 (.agg (Rx.cel m)) (.agg (Rx.cel Rx.none_))).run Try.prog w' = .ok true w' := fun w' => by rw [Rc.eqcells, hal]
        clear hal
        have hx256 : (x.toNat : Int) < 256 := by have := UInt8.toNat_lt x; omega
        have hx256n : x.toNat < 256 := UInt8.toNat_lt x
        have k1 : ((w2.alloc (.cells Try.zeroCells125 125)).setRow w2.heap.size (Rx.cel m)).cell? ⟨n0 + 1, x.toNat, none⟩ = some (.bool false) := (HR1x.out.cell x.toNat).trans (Rx.cel_at _ _ hx256n)
        have k2 := HR1x.out.frozen x.toNat
        have HRA := Lib.hid (Rc.turned HR1x.out x.toNat true)
        have HRB : Hid (RowAt (((w2.alloc (.cells Try.zeroCells125 125)).setRow w2.heap.size (Rx.cel m)).setCell ⟨n0 + 1, x.toNat, none⟩ (.bool true)) n0 125 (Rx.cel Rx.none_)) := Lib.hid (HR0x.out.far (by show n0 ≠ n0 + 1; omega) _)
        go_wp2_with first
          | ((with_reducible refine Rc.stset (Rx.cel m) (Rx.cel Rx.none_) (Rx.cel_size _) (Rx.cel_one _) (Rx.cel_size _) ?_ ?_ (HX0.out) ?_); (focus simp [Act.eval, Act.put]); (focus simp [Act.eval, Act.put]))
          | ((with_reducible refine Rc.ldset (Rx.cel m) (Rx.cel_size _) ?_ (HXx.out) ?_); (focus simp [Act.eval, Act.put]))
          | ((with_reducible refine Rc.built_g rfl rfl ?_))
          | ((with_reducible refine Rc.ldset (Rx.cel fun j => if j = x.toNat then true else Rx.none_ j) (Rx.cel_size _) ?_ (HRA.out) ?_); (focus simp [Act.eval, Act.put]))
          | ((with_reducible refine Rc.stset (Rx.cel fun j => if j = x.toNat then true else Rx.none_ j) (Rx.cel Rx.none_) (Rx.cel_size _) (Rx.cel_one _) (Rx.cel_size _) ?_ ?_ (HRB.out) ?_); (focus simp [Act.eval, Act.put]); (focus simp [Act.eval, Act.put]))
        ((try simp only [Exit.inBlock, Exit.then]); refine bodyPost_ret (Rc.ret_set2 rfl _ ?_ (Rc.row_setRow HRB.out _) (Rx.cel_size _)) rfl ?_; (focus simp); simp only [Array.getD_eq_getD_getElem?])
        have hnn := HN0.out
        exact HRP.out _ true n _ (Rc.Did.low HAW.out HDx.out (Rc.below_setRow (Below.setCell (Below.refl _ _) (by show w.heap.size ≤ n0 + 1; omega) _) (by omega) _)) HN2.out (fun _ => hK)

theorem set_any : Rc.SetC (fun _ => True) := fun w b v r h hl ha _ => by
  have hc : r.s[r.at_]? = some r.s[r.at_] := List.getElem?_eq_getElem ha
  by_cases hs : r.s[r.at_] = 46 ∨ r.s[r.at_] = 91 ∨ r.s[r.at_] = 92
  · exact set_sign h hl hc hs
  · exact set_plain h hl hc (fun e => hs (.inl e)) (fun e => hs (.inr (.inl e))) (fun e => hs (.inr (.inr e)))
end Go.Proofs.Ytelbabgkpflckaa

namespace Go.Proofs.Ytelbabgkpflckaa
open Go.RowKit Go.Sort
open Me
open Pk

set_option maxRecDepth 100000 in
set_option maxHeartbeats 8000000 in
theorem lawFinds12 (s : List UInt8) (t : List UInt8) (fr : Int) (W : World) :
    Calls Try.prog 3 #[.string ⟨s.toArray⟩, .string ⟨t.toArray⟩, .int .i64 fr] W fun e W' => e = .returned (.bool true) ∧ Below W.heap.size W W' := by
  have HK := Lib.hid fun W => known12_any W
  by_cases h1 : 60 < s.length
  · have h1I : (60 : Int) < (s.length : Int) := by omega
    clear h1
    go_enter Try.func3, Try.ntmps3
    go_wp2_with fail
    go_ret
    exact ⟨rfl, Below.refl _ _⟩
  have h1I : ¬ (60 : Int) < (s.length : Int) := by omega
  by_cases h2 : 60 < t.length
  · have h2I : (60 : Int) < (t.length : Int) := by omega
    clear h1 h2
    go_enter Try.func3, Try.ntmps3
    go_wp2_with fail
    go_ret
    exact ⟨rfl, Below.refl _ _⟩
  have h2I : ¬ (60 : Int) < (t.length : Int) := by omega
  have ht60 : t.length ≤ 60 := by omega
  have HOF := Lib.hid (of_any set_any (W := W) (s := s) trivial (by omega))
  clear h1 h2
  go_enter Try.func3, Try.ntmps3
  go_wp2_with fail
  go_at_call 7
  refine HOF.out.mono ?_
  rintro e w1 ⟨g, L, A, cp, ok, rfl, hb1, hr1, hf1, _⟩
  have HB0 := Lib.hid hb1
  have hs1 := hb1.size
  cases ok
  · clear hb1 hr1 hf1
    go_wp2_with (go_at_call 8; go_must (refine (HK.out _).mono ?_; rintro e w5 ⟨rfl, hb5⟩; have HB5 := Lib.hid ((HB0.out.alloc HB0.out.size (.cells #[.int .i64 (g : Int), .slice A L.length cp] 24)).trans (hb5.mono (by have := HB0.out.size; simp; omega))); clear hb5))
    go_ret
    exact ⟨rfl, HB5.out⟩
  · have hL : L.length ≤ 1024 := hf1.len
    have HALL : Hid (∀ x ∈ L, x.p.length ≤ 1048576) := Lib.hid fun x hx => by have := hf1.p x hx; omega
    obtain ⟨pb, hpb⟩ : ∃ pb, pb = w1.heap.size := ⟨_, rfl⟩
    obtain ⟨wb, hwb⟩ : ∃ wb, wb = w1.alloc (.cells #[.int .i64 (g : Int), .slice A L.length cp] 24) := ⟨_, rfl⟩
    have HBW : Hid (Below W.heap.size W wb) := Lib.hid (by rw [hwb]; exact HB0.out.alloc HB0.out.size _)
    have HP2 : Hid (Rd wb (fun _ => True) A (icells L)) := Lib.hid (by rw [hwb]; exact (hr1.below ((Below.refl _ _).alloc (Nat.le_refl _) _)).mono fun _ _ _ => trivial)
    have HRW : Hid (RowAt wb pb 24 #[.int .i64 (g : Int), .slice A L.length cp]) := Lib.hid (by rw [hwb, hpb]; exact RowAt.new w1 _ _)
    have hc0 : wb.cell? ⟨pb, 0, none⟩ = some (.int .i64 (g : Int)) := (HRW.out.cell 0).trans rfl
    have hc1 : wb.cell? ⟨pb, 1, none⟩ = some (.slice A L.length cp) := (HRW.out.cell 1).trans rfl
    have HFP : Hid (∃ (l : List Int) (bb z : Bool), l.length ≤ 1048576 ∧ (∀ W, Rd W (fun _ => True) A (icells L) → Calls Try.prog 9 #[.agg #[.int .i64 (g : Int), .slice A L.length cp], .string ⟨t.toArray⟩, .int .i64 fr] W fun e W' => ∃ A2 c2, e = .returned (.tuple #[.slice A2 l.length c2, .bool bb]) ∧ Below W.heap.size W W' ∧ Rd W' (fun _ => True) A2 (iv l)) ∧ (∀ W B c, Rd W (fun _ => True) B (icells L) → Calls Try.prog 10 #[.agg #[.int .i64 (g : Int), .slice B L.length c], .string ⟨t.toArray⟩, .int .i64 fr] W fun e W' => ∃ A2 c2, e = .returned (.tuple #[.slice A2 l.length c2, .bool bb]) ∧ Below W.heap.size W W' ∧ Rd W' (fun _ => True) A2 (iv l)) ∧
        (∀ W, Rd W (fun _ => True) A (icells L) → Calls Try.prog 13 #[.agg #[.int .i64 (g : Int), .slice A L.length cp], .string ⟨t.toArray⟩] W fun e W' => e = .returned (.bool z) ∧ Below W.heap.size W W') ∧ (∀ W B c, Rd W (fun _ => True) B (icells L) → Calls Try.prog 14 #[.agg #[.int .i64 (g : Int), .slice B L.length c], .string ⟨t.toArray⟩] W fun e W' => e = .returned (.bool z) ∧ Below W.heap.size W W')) :=
      Lib.hid ⟨_, _, _, findP_rows (g : Int) L t fr, fun W h => find_row h (by omega) (by omega), fun W B c h => refFind_row h HALL.out (by omega) (by omega), fun W h => is_any h (by omega) (by omega), fun W B c h => refIs_any h HALL.out (by omega) (by omega)⟩
    obtain ⟨l, bb, z, hll, hf, hg, hi, hj⟩ := HFP.out
    have HF := Lib.hid hf
    have HG := Lib.hid hg
    have HI := Lib.hid hi
    have HJ := Lib.hid hj
    have HLL := Lib.hid hll
    have HLK := Lib.hid fun (W : World) h => like_any (W := W) (A := A) (cp := cp) (L := L) (G := (g : Int)) h (by omega)
    clear HFP hf hg hi hj hll hb1 hr1 hf1
    have hbb : (bb == bb) = true := by simp
    have hzz : (z == z) = true := by simp
    go_wp2_with fail
    rw [← hwb, ← hpb]
    clear hwb hpb
    go_wp2_with first
      | (go_at_call 9; go_must (refine (HF.out _ HP2.out).mono ?_; rintro e w2 ⟨A1, c1, rfl, hb2, hr2⟩; have HB1 := Lib.hid (HBW.out.trans (hb2.mono HBW.out.size)); have HR1 := Lib.hid hr2; have HRW2 := Lib.hid (HRW.out.below hb2 HRW.out.lt); have k10 := (HRW2.out.cell 0).trans rfl; have k11 := (HRW2.out.cell 1).trans rfl; have HP3 := Lib.hid (HP2.out.below hb2); clear hb2 hr2))
      | (go_at_call 11; go_must (refine (HLK.out _ HP3.out).mono ?_; rintro e w3 ⟨A2, c2, rfl, hb3, hr3⟩; have HB2 := Lib.hid (HB1.out.trans (hb3.mono HB1.out.size)); have HR12 := Lib.hid (HR1.out.below hb3); have HR2 : Hid (Rd w3 (fun _ => True) A2 (icells L)) := Lib.hid (hr3.mono fun _ _ _ => trivial); have HRW3 := Lib.hid (HRW2.out.below hb3 HRW2.out.lt); have HP4 := Lib.hid (HP3.out.below hb3); clear hb3 hr3))
      | (go_at_call 10; go_must (refine (HG.out _ _ _ HR2.out).mono ?_; rintro e w4 ⟨A3, c3, rfl, hb4, hr4⟩; have HB3 := Lib.hid (HB2.out.trans (hb4.mono HB2.out.size)); have HR13 := Lib.hid (HR12.out.below hb4); have HR3 := Lib.hid hr4; have HRW4 := Lib.hid (HRW3.out.below hb4 HRW3.out.lt); have HP5 := Lib.hid (HP4.out.below hb4); clear hb4 hr4))
    have y0 : w4.cell? ⟨pb, 0, none⟩ = some (.int .i64 (g : Int)) := (HRW4.out.cell 0).trans rfl
    have y1 : w4.cell? ⟨pb, 1, none⟩ = some (.slice A L.length cp) := (HRW4.out.cell 1).trans rfl
    have hplt := HRW4.out.lt
    have QN : Hid (∀ X, Below w4.heap.size w4 X → Calls Try.prog 12 #[.slice A1 l.length c1, .slice A3 l.length c3] X fun e w' => e = .returned (.bool true) ∧ Below w4.heap.size w4 w' ∧ Below X.heap.size X w') := Lib.hid fun X hX => by
      refine (numbers_any (l1 := l) (l2 := l) (HR13.out.below hX) (HR3.out.below hX) HLL.out).mono ?_
      rintro e w' ⟨rfl, hb⟩
      exact ⟨by simp, hX.trans (hb.mono hX.size), hb⟩
    have QI : Hid (∀ X, Below w4.heap.size w4 X → Calls Try.prog 13 #[.agg #[.int .i64 (g : Int), .slice A L.length cp], .string ⟨t.toArray⟩] X fun e w' => e = .returned (.bool z) ∧ Below w4.heap.size w4 w' ∧ Below X.heap.size X w') := Lib.hid fun X hX => by
      refine (HI.out X (HP5.out.below hX)).mono ?_
      rintro e w' ⟨rfl, hb⟩
      exact ⟨rfl, hX.trans (hb.mono hX.size), hb⟩
    have QL : Hid (∀ X, Below w4.heap.size w4 X → Calls Try.prog 11 #[.agg #[.int .i64 (g : Int), .slice A L.length cp]] X fun e w' => ∃ A2 c2, e = .returned (.agg #[.int .i64 (g : Int), .slice A2 L.length c2]) ∧ Below w4.heap.size w4 w' ∧ Rd w' (fun _ => True) A2 (icells L)) := Lib.hid fun X hX => by
      refine (HLK.out X (HP5.out.below hX)).mono ?_
      rintro e w' ⟨A2, c2, rfl, hb, hr⟩
      exact ⟨A2, c2, rfl, hX.trans (hb.mono hX.size), hr.mono fun _ _ _ => trivial⟩
    have QJ : Hid (∀ X B c, Below w4.heap.size w4 X → Rd X (fun _ => True) B (icells L) → Calls Try.prog 14 #[.agg #[.int .i64 (g : Int), .slice B L.length c], .string ⟨t.toArray⟩] X fun e w' => e = .returned (.bool z) ∧ Below w4.heap.size w4 w' ∧ Below X.heap.size X w') := Lib.hid fun X B c hX h => by
      refine (HJ.out X B c h).mono ?_
      rintro e w' ⟨rfl, hb⟩
      exact ⟨rfl, hX.trans (hb.mono hX.size), hb⟩
    have QK : Hid (∀ X, Below w4.heap.size w4 X → Calls Try.prog 8 #[] X fun e w' => e = .returned (.bool true) ∧ Below w4.heap.size w4 w') := Lib.hid fun X hX => (HK.out X).mono fun e w' ⟨h1, hb⟩ => ⟨h1, hX.trans (hb.mono hX.size)⟩
    have CE : Hid (∀ X, Below w4.heap.size w4 X → X.cell? ⟨pb, 0, none⟩ = some (.int .i64 (g : Int)) ∧ X.cell? ⟨pb, 1, none⟩ = some (.slice A L.length cp) ∧ pb < X.heap.size) := Lib.hid fun X hX => ⟨(hX.cell (p := ⟨pb, 0, none⟩) hplt).trans y0, (hX.cell (p := ⟨pb, 1, none⟩) hplt).trans y1, Nat.lt_of_lt_of_le hplt hX.size⟩
    have hself : Below w4.heap.size w4 w4 := Below.refl _ _
    clear k10 k11 hc0 hc1
    go_region_law (go_simp; first
      | (go_at_call 12; refine (QN.out _ (by first | assumption | exact Below.drew (by assumption))).mono ?_; rintro e x1 ⟨rfl, hx1, hy1⟩; obtain ⟨z10, z11, z12⟩ := CE.out _ hx1)
      | (go_at_call 13; refine (QI.out _ (by first | assumption | exact Below.drew (by assumption))).mono ?_; rintro e x2 ⟨rfl, hx2, hy2⟩; obtain ⟨z20, z21, z22⟩ := CE.out _ hx2; (try replace hrow := Rd.below (by exact hrow) hy2))
      | (go_at_call 11; refine (QL.out _ (by first | assumption | exact Below.drew (by assumption))).mono ?_; rintro e x3 ⟨A5, c5, rfl, hx3, hrow⟩; obtain ⟨z30, z31, z32⟩ := CE.out _ hx3)
      | (go_at_call 14; refine (QJ.out _ _ _ (by first | assumption | exact Below.drew (by assumption)) (by exact hrow)).mono ?_; rintro e x4 ⟨rfl, hx4, hy4⟩; obtain ⟨z40, z41, z42⟩ := CE.out _ hx4)
      | (go_at_call 8; refine (QK.out _ (by first | assumption | exact Below.drew (by assumption))).mono ?_; rintro e x5 ⟨rfl, hx5⟩; have HX5 := Lib.hid hx5))
    all_goals
      try go_simp
      try go_wp2_with fail
      go_ret
      exact ⟨rfl, HB3.out.trans (HX5.out.mono HB3.out.size)⟩
end Go.Proofs.Ytelbabgkpflckaa
