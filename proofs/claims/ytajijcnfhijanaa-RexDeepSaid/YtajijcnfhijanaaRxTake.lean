/-
  CONTRACTS: chapter 11: what is left of a text in the parser's box: begins, takes, takeSign, takeByte, takeClass, classOf, isAlone, isRange.
-/
import Derived.Test.YtajijcnfhijanaaRxCls
namespace Go.Proofs.Ytajijcnfhijanaa
open Go.RowKit
open Me

namespace Rx
/-- The parser in its box: what is left, the groups that have a number, the groups that are open. -/
def PsAt (w : World) (b : Nat) (l : List UInt8) (g d : Nat) : Prop := RowAt w b 44 #[.string ⟨l.toArray⟩, .int .i64 g, .int .i64 d]
theorem PsAt.c0 {w : World} {b g d : Nat} {l : List UInt8} (h : PsAt w b l g d) : w.cell? ⟨b, 0, none⟩ = some (.string ⟨l.toArray⟩) := (RowAt.cell h 0).trans rfl
theorem PsAt.c1 {w : World} {b g d : Nat} {l : List UInt8} (h : PsAt w b l g d) : w.cell? ⟨b, 1, none⟩ = some (.int .i64 g) := (RowAt.cell h 1).trans rfl
theorem PsAt.c2 {w : World} {b g d : Nat} {l : List UInt8} (h : PsAt w b l g d) : w.cell? ⟨b, 2, none⟩ = some (.int .i64 d) := (RowAt.cell h 2).trans rfl
theorem PsAt.lt {w : World} {b g d : Nat} {l : List UInt8} (h : PsAt w b l g d) : b < w.heap.size := RowAt.lt h
theorem PsAt.below {w w' : World} {b g d B : Nat} {l : List UInt8} (h : PsAt w b l g d) (hb : Below B w w') (hB : b < B) : PsAt w' b l g d := RowAt.below h hb hB
theorem PsAt.on {w w' : World} {b g d : Nat} {l : List UInt8} (h : PsAt w b l g d) (hb : Below w.heap.size w w') : PsAt w' b l g d := h.below hb h.lt
theorem PsAt.set0 {w : World} {b g d : Nat} {l : List UInt8} (h : PsAt w b l g d) (m : List UInt8) : PsAt (w.setCell ⟨b, 0, none⟩ (.string ⟨m.toArray⟩)) b m g d := by
  have := RowAt.set_ h 0 (.string ⟨m.toArray⟩)
  exact this
theorem PsAt.set1 {w : World} {b g d : Nat} {l : List UInt8} (h : PsAt w b l g d) (g2 : Nat) : PsAt (w.setCell ⟨b, 1, none⟩ (.int .i64 g2)) b l g2 d := by
  have := RowAt.set_ h 1 (.int .i64 g2)
  exact this
theorem PsAt.set2 {w : World} {b g d : Nat} {l : List UInt8} (h : PsAt w b l g d) (d2 : Nat) : PsAt (w.setCell ⟨b, 2, none⟩ (.int .i64 d2)) b l g d2 := by
  have := RowAt.set_ h 2 (.int .i64 d2)
  exact this
theorem PsAt.alloc {w : World} {b g d : Nat} {l : List UInt8} (h : PsAt w b l g d) (o : Obj) : PsAt (w.alloc o) b l g d := RowAt.alloc h o
/-- What a reader leaves. -/
structure Took (w : World) (b : Nat) (l : List UInt8) (g d : Nat) (w' : World) : Prop where
  at_ : PsAt w' b l g d
  kp : Kp (fun i => i = b) w w'
theorem Took.refl {w : World} {b g d : Nat} {l : List UInt8} (h : PsAt w b l g d) : Took w b l g d w := ⟨h, Kp.refl _ _⟩
theorem Took.trans {w w1 w2 : World} {b g d g2 d2 : Nat} {l m : List UInt8} (h : Took w b l g d w1) (k : Took w1 b m g2 d2 w2) : Took w b m g2 d2 w2 := ⟨k.at_, h.kp.trans k.kp fun _ _ e => e⟩
theorem Took.on {w w1 w2 : World} {b g d : Nat} {l : List UInt8} (h : Took w b l g d w1) (k : Below w1.heap.size w1 w2) : Took w b l g d w2 := ⟨h.at_.on k, h.kp.trans (Kp.of_below (O := fun i => i = b) k) fun _ _ e => e⟩
theorem Took.size {w w1 : World} {b g d : Nat} {l : List UInt8} (h : Took w b l g d w1) : w.heap.size ≤ w1.heap.size := h.kp.size
theorem Took.kpRow {w w1 : World} {b g d : Nat} {l : List UInt8} (h : Took w b l g d w1) {n : Nat} {t : TypeId} {X : Array Value} (hr : RowAt w n t X) (hn : n ≠ b) : RowAt w1 n t X := (h.kp.block n hr.lt hn).trans hr
theorem Took.set0 {w w1 : World} {b g d : Nat} {l : List UInt8} (h : Took w b l g d w1) (m : List UInt8) : Took w b m g d (w1.setCell ⟨b, 0, none⟩ (.string ⟨m.toArray⟩)) := ⟨h.at_.set0 m, h.kp.setCell _ (.inr rfl) _⟩
theorem Took.setRow {w w1 : World} {b g d n : Nat} {l : List UInt8} (h : Took w b l g d w1) (hn : w.heap.size ≤ n) (hb : b < n) (X : Array Value) : Took w b l g d (w1.setRow n X) := ⟨row_setRow_far h.at_ (by omega) X, kp_setRow h.kp (.inl hn) X⟩
theorem cut_one (c : UInt8) (l : List UInt8) : cutP [c] l = if starts c l then l.drop 1 else l := by unfold cutP; rw [pre_one]; rfl
end Rx

set_option maxHeartbeats 400000 in
theorem begins_any {w : World} {b g d : Nat} {l : List UInt8} (h : Rx.PsAt w b l g d) (p : List UInt8) :
    Calls Try.prog 26 #[.pointer (some ⟨b, 0, none⟩), .string ⟨p.toArray⟩] w fun e w' => e = .returned (.bool (p.isPrefixOf l)) ∧ w = w' := by
  have c0 := h.c0
  have HP := Lib.hid fun W => sPrefix_any l p W
  clear h
  generalize p.isPrefixOf l = R at *
  go_enter Try.func26, Try.ntmps26
  go_wp2_with (go_at_call 31; go_must (refine (HP.out _).mono ?_; rintro e w' ⟨rfl, rfl⟩))
  go_ret
  exact ⟨rfl, rfl⟩
theorem begins_one {w : World} {b g d : Nat} {l : List UInt8} (h : Rx.PsAt w b l g d) (c : UInt8) :
    Calls Try.prog 26 #[.pointer (some ⟨b, 0, none⟩), .string ⟨#[c]⟩] w fun e w' => e = .returned (.bool (Rx.starts c l)) ∧ w = w' := by
  rw [← Rx.pre_one]; exact begins_any h [c]

set_option maxHeartbeats 400000 in
theorem takes_any {w : World} {b g d : Nat} {l : List UInt8} (h : Rx.PsAt w b l g d) (p : List UInt8) :
    Calls Try.prog 20 #[.pointer (some ⟨b, 0, none⟩), .string ⟨p.toArray⟩] w fun e w' => e = .returned (.bool (p.isPrefixOf l)) ∧ Rx.Took w b (Rx.cutP p l) g d w' := by
  have c0 := h.c0
  have f0 := RowAt.frozen h 0
  have HP := Lib.hid fun W => sCut_any l p W
  have HT := Lib.hid ((Rx.Took.refl h).set0 (Rx.cutP p l))
  clear h
  generalize p.isPrefixOf l = R at *
  generalize Rx.cutP p l = C at *
  go_enter Try.func20, Try.ntmps20
  go_wp2_with (go_at_call 28; go_must (refine (HP.out _).mono ?_; rintro e w' ⟨rfl, rfl⟩))
  go_ret
  exact ⟨rfl, HT.out⟩
theorem takes_one {w : World} {b g d : Nat} {l : List UInt8} (h : Rx.PsAt w b l g d) (c : UInt8) :
    Calls Try.prog 20 #[.pointer (some ⟨b, 0, none⟩), .string ⟨#[c]⟩] w fun e w' => e = .returned (.bool (Rx.starts c l)) ∧ Rx.Took w b (if Rx.starts c l then l.drop 1 else l) g d w' := by
  rw [← Rx.cut_one, ← Rx.pre_one]; exact takes_any h [c]

set_option maxHeartbeats 400000 in
theorem rIndex_any (l : List UInt8) (c : Int) (w : World) :
    Calls Try.prog 51 #[.string ⟨l.toArray⟩, .int .u8 c] w fun e w' => e = .returned (.int .i64 (Lib.indexByte l c.toNat.toUInt8)) ∧ w = w' := by
  go_enter Try.func51, Try.ntmps51
  go_wp2
  rw [run_callFunc_extern Try.func58 (by kernel_rfl) (by kernel_rfl) (by kernel_rfl) (e := Extern.BytealgIndexByte.indexByte) (by kernel_rfl), Lib.run_indexByteString]
  simp only [Result.andThen]
  rw [Oper.upon_value]
  go_wp2
  go_ret
  exact ⟨rfl, rfl⟩

namespace Rx
theorem sign_hit {c : UInt8} (h : signB c = true) : 0 ≤ Lib.indexByte [42, 43, 63] c ∧ Lib.indexByte [42, 43, 63] c ≤ 2 := by
  have h' : c = 42 ∨ c = 43 ∨ c = 63 := by simpa [signB, or_assoc] using h
  rcases h' with rfl | rfl | rfl <;> decide
theorem sign_miss {c : UInt8} (h : signB c = false) : Lib.indexByte [42, 43, 63] c = -1 := by
  have h' : (c ≠ 42 ∧ c ≠ 43) ∧ c ≠ 63 := by simpa [signB] using h
  obtain ⟨⟨h1, h2⟩, h3⟩ := h'
  unfold Lib.indexByte Lib.indexByte Lib.indexByte Lib.indexByte
  rw [beq_eq_false_iff_ne.2 (fun e => h1 e.symm), beq_eq_false_iff_ne.2 (fun e => h2 e.symm), beq_eq_false_iff_ne.2 (fun e => h3 e.symm)]
  rfl
end Rx

theorem sign_index (c : UInt8) (w : World) :
    Calls Try.prog 41 #[.string ⟨#[42, 43, 63]⟩, .int .u8 (c.toNat : Int)] w fun e w' => e = .returned (.int .i64 (Lib.indexByte [42, 43, 63] c)) ∧ w = w' := by
  have HX : Hid (∀ W, Calls Try.prog 51 #[.string ⟨#[42, 43, 63]⟩, .int .u8 (c.toNat : Int)] W fun e w' => e = .returned (.int .i64 (Lib.indexByte [42, 43, 63] c)) ∧ W = w') := Lib.hid fun W => by
    have := rIndex_any [42, 43, 63] (c.toNat : Int) W
    rw [show ((c.toNat : Int).toNat.toUInt8) = c by rw [Int.toNat_natCast]; exact UInt8.ofNat_toNat] at this
    exact this
  generalize Lib.indexByte [42, 43, 63] c = R at *
  go_enter Try.func41, Try.ntmps41
  go_wp2_with (go_at_call 51; go_must (refine (HX.out _).mono ?_; rintro e w' ⟨rfl, rfl⟩))
  go_ret
  exact ⟨rfl, rfl⟩

namespace Rx
theorem drop1 (c : UInt8) (r : List UInt8) : (⟨(c :: r).toArray⟩ : ByteArray).extract 1 (r.length + 1) = ⟨r.toArray⟩ := by
  apply ByteArray.ext
  rw [ByteArray.data_extract]
  apply Array.toList_inj.1
  simp [List.take_of_length_le]
theorem drop2 (a c : UInt8) (r : List UInt8) : (⟨(a :: c :: r).toArray⟩ : ByteArray).extract 2 (r.length + 1 + 1) = ⟨r.toArray⟩ := by
  apply ByteArray.ext
  rw [ByteArray.data_extract]
  apply Array.toList_inj.1
  simp [List.take_of_length_le]
end Rx

set_option maxHeartbeats 1000000 in
theorem takeSign_hit {w : World} {b g d : Nat} {c : UInt8} {r : List UInt8} (h : Rx.PsAt w b (c :: r) g d) (hs : Rx.signB c = true) :
    Calls Try.prog 33 #[.pointer (some ⟨b, 0, none⟩), .string ⟨#[42, 43, 63]⟩] w fun e w' => e = .returned (.tuple #[.int .u8 (c.toNat : Int), .bool true]) ∧ Rx.Took w b r g d w' := by
  have c0 := h.c0
  have f0 := RowAt.frozen h 0
  have HX := Lib.hid fun W => sign_index c W
  obtain ⟨k0, _⟩ := Rx.sign_hit hs
  have HT := Lib.hid ((Rx.Took.refl h).set0 r)
  have HD := Lib.hid (Rx.drop1 c r)
  clear h hs
  generalize Lib.indexByte [42, 43, 63] c = R at *
  go_enter Try.func33, Try.ntmps33
  go_wp2_with (go_at_call 41; go_must (refine (HX.out _).mono ?_; rintro e w' ⟨rfl, rfl⟩))
  ((try simp only [Exit.inBlock, Exit.then]); refine bodyPost_ret (results_tmp2 rfl _ _ _) rfl ?_)
  exact ⟨rfl, by rw [HD.out]; exact HT.out⟩
set_option maxHeartbeats 1000000 in
theorem takeSign_miss {w : World} {b g d : Nat} {c : UInt8} {r : List UInt8} (h : Rx.PsAt w b (c :: r) g d) (hs : Rx.signB c = false) :
    Calls Try.prog 33 #[.pointer (some ⟨b, 0, none⟩), .string ⟨#[42, 43, 63]⟩] w fun e w' => e = .returned (.tuple #[.int .u8 0, .bool false]) ∧ Rx.Took w b (c :: r) g d w' := by
  have c0 := h.c0
  have HX := Lib.hid fun W => sign_index c W
  have k0 := Rx.sign_miss hs
  rw [k0] at HX
  have HT := Lib.hid (Rx.Took.refl h)
  clear h hs k0
  go_enter Try.func33, Try.ntmps33
  go_wp2_with (go_at_call 41; go_must (refine (HX.out _).mono ?_; rintro e w' ⟨rfl, rfl⟩))
  ((try simp only [Exit.inBlock, Exit.then]); refine bodyPost_ret (results_tmp2 rfl _ _ _) rfl ?_)
  exact ⟨rfl, HT.out⟩
theorem takeSign_nil {w : World} {b g d : Nat} (h : Rx.PsAt w b [] g d) :
    Calls Try.prog 33 #[.pointer (some ⟨b, 0, none⟩), .string ⟨#[42, 43, 63]⟩] w fun e w' => e = .returned (.tuple #[.int .u8 0, .bool false]) ∧ Rx.Took w b [] g d w' := by
  have c0 := h.c0
  have HT := Lib.hid (Rx.Took.refl h)
  clear h
  go_enter Try.func33, Try.ntmps33
  go_wp2_with fail
  ((try simp only [Exit.inBlock, Exit.then]); refine bodyPost_ret (results_tmp2 rfl _ _ _) rfl ?_)
  exact ⟨rfl, HT.out⟩

namespace Rx
/-- What takeByte leaves. -/
def TookB (w : World) (b : Nat) (l : List UInt8) (g d : Nat) (e : Ending) (w' : World) : Prop :=
  (∃ c r, takeByte l = some (c, r) ∧ e = .returned (.tuple #[.int .u8 (c.toNat : Int), .bool true]) ∧ Took w b r g d w') ∨ (takeByte l = none ∧ e = .returned (.tuple #[.int .u8 0, .bool false]) ∧ ∃ r, Took w b r g d w')
end Rx

set_option maxHeartbeats 1000000 in
theorem takeByte_any {w : World} {b g d : Nat} {l : List UInt8} (h : Rx.PsAt w b l g d) :
    Calls Try.prog 50 #[.pointer (some ⟨b, 0, none⟩)] w (Rx.TookB w b l g d) := by
  have HT := Lib.hid (takes_one h 92)
  cases l with
  | nil =>
    have HR : Hid (∀ w', Rx.Took w b [] g d w' → Rx.TookB w b [] g d (.returned (.tuple #[.int .u8 0, .bool false])) w') := Lib.hid fun w' h => .inr ⟨rfl, rfl, _, h⟩
    have HT2 : Hid (Calls Try.prog 20 #[.pointer (some ⟨b, 0, none⟩), .string ⟨#[92]⟩] w fun e w' => e = .returned (.bool false) ∧ Rx.Took w b [] g d w') := HT
    clear h HT
    go_enter Try.func50, Try.ntmps50
    go_wp2_with (go_at_call 20; go_must (refine (HT2.out).mono ?_; rintro e w1 ⟨rfl, ht⟩; have c1 := ht.at_.c0; have HTK := Lib.hid ht; clear ht))
    ((try simp only [Exit.inBlock, Exit.then]); refine bodyPost_ret (results_tmp2 rfl _ _ _) rfl ?_)
    exact HR.out _ HTK.out
  | cons x r =>
    by_cases hx : x = 92
    · subst hx
      have HT2 : Hid (Calls Try.prog 20 #[.pointer (some ⟨b, 0, none⟩), .string ⟨#[92]⟩] w fun e w' => e = .returned (.bool true) ∧ Rx.Took w b r g d w') := HT
      clear h HT
      cases r with
      | nil =>
        have HR : Hid (∀ w', Rx.Took w b [] g d w' → Rx.TookB w b [92] g d (.returned (.tuple #[.int .u8 0, .bool false])) w') := Lib.hid fun w' h => .inr ⟨rfl, rfl, _, h⟩
        go_enter Try.func50, Try.ntmps50
        go_wp2_with (go_at_call 20; go_must (refine (HT2.out).mono ?_; rintro e w1 ⟨rfl, ht⟩; have c1 := ht.at_.c0; have HTK := Lib.hid ht; clear ht))
        ((try simp only [Exit.inBlock, Exit.then]); refine bodyPost_ret (results_tmp2 rfl _ _ _) rfl ?_)
        exact HR.out _ HTK.out
      | cons c r2 =>
        have HW := Lib.hid fun W => word_any c W
        have HD := Lib.hid (Rx.drop1 c r2)
        cases hw : Rx.wordB c
        · rw [hw] at HW
          have HR : Hid (∀ w', Rx.Took w b r2 g d w' → Rx.TookB w b (92 :: c :: r2) g d (.returned (.tuple #[.int .u8 (c.toNat : Int), .bool true])) w') := Lib.hid fun w' h => .inl ⟨c, r2, by simp [Rx.takeByte, hw], rfl, h⟩
          clear hw
          go_enter Try.func50, Try.ntmps50
          go_wp2_with first
            | (go_at_call 20; go_must (refine (HT2.out).mono ?_; rintro e w1 ⟨rfl, ht⟩; have c1 := ht.at_.c0; have f1 := RowAt.frozen ht.at_ 0; have HTK := Lib.hid ht; clear ht))
            | (go_at_call 57; go_must (refine (HW.out _).mono ?_; rintro e w2 ⟨rfl, rfl⟩))
          ((try simp only [Exit.inBlock, Exit.then]); refine bodyPost_ret (results_tmp2 rfl _ _ _) rfl ?_)
          exact HR.out _ (by rw [HD.out]; exact HTK.out.set0 r2)
        · rw [hw] at HW
          have HR : Hid (∀ w', Rx.Took w b (c :: r2) g d w' → Rx.TookB w b (92 :: c :: r2) g d (.returned (.tuple #[.int .u8 0, .bool false])) w') := Lib.hid fun w' h => .inr ⟨by simp [Rx.takeByte, hw], rfl, _, h⟩
          clear hw
          go_enter Try.func50, Try.ntmps50
          go_wp2_with first
            | (go_at_call 20; go_must (refine (HT2.out).mono ?_; rintro e w1 ⟨rfl, ht⟩; have c1 := ht.at_.c0; have f1 := RowAt.frozen ht.at_ 0; have HTK := Lib.hid ht; clear ht))
            | (go_at_call 57; go_must (refine (HW.out _).mono ?_; rintro e w2 ⟨rfl, rfl⟩))
          ((try simp only [Exit.inBlock, Exit.then]); refine bodyPost_ret (results_tmp2 rfl _ _ _) rfl ?_)
          exact HR.out _ HTK.out
    · have hs : Rx.starts 92 (x :: r) = false := by show (x == 92) = false; simpa using hx
      rw [hs] at HT
      have HT2 : Hid (Calls Try.prog 20 #[.pointer (some ⟨b, 0, none⟩), .string ⟨#[92]⟩] w fun e w' => e = .returned (.bool false) ∧ Rx.Took w b (x :: r) g d w') := HT
      have HD := Lib.hid (Rx.drop1 x r)
      have HR : Hid (∀ w', Rx.Took w b r g d w' → Rx.TookB w b (x :: r) g d (.returned (.tuple #[.int .u8 (x.toNat : Int), .bool true])) w') := Lib.hid fun w' h => .inl ⟨x, r, by simp [Rx.takeByte, hx], rfl, h⟩
      clear h HT hs hx
      go_enter Try.func50, Try.ntmps50
      go_wp2_with (go_at_call 20; go_must (refine (HT2.out).mono ?_; rintro e w1 ⟨rfl, ht⟩; have c1 := ht.at_.c0; have f1 := RowAt.frozen ht.at_ 0; have HTK := Lib.hid ht; clear ht))
      ((try simp only [Exit.inBlock, Exit.then]); refine bodyPost_ret (results_tmp2 rfl _ _ _) rfl ?_)
      exact HR.out _ (by rw [HD.out]; exact HTK.out.set0 r)

namespace Rx
theorem GaveS.no {w w' : World} {e : Ending} (h : GaveS w none e w') : ∃ f, e = .returned (.tuple #[.agg (cel f), .bool false]) ∧ Below w.heap.size w w' := by
  obtain ⟨hb, ⟨f, h, _⟩ | ⟨_, f, he⟩⟩ := h
  · cases h
  · exact ⟨f, he, hb⟩
theorem GaveS.yes {w w' : World} {e : Ending} {f : St} (h : GaveS w (some f) e w') : e = .returned (.tuple #[.agg (cel f), .bool true]) ∧ Below w.heap.size w w' := by
  obtain ⟨hb, ⟨f2, h, he⟩ | ⟨h, _⟩⟩ := h
  · cases h; exact ⟨he, hb⟩
  · cases h
/-- A set that was taken off, or none. -/
def TookS (w : World) (b : Nat) (r : Option (St × List UInt8)) (l : List UInt8) (g d : Nat) (e : Ending) (w' : World) : Prop :=
  (∃ f m, r = some (f, m) ∧ e = .returned (.tuple #[.agg (cel f), .bool true]) ∧ Took w b m g d w') ∨ (r = none ∧ (∃ f, e = .returned (.tuple #[.agg (cel f), .bool false])) ∧ Took w b l g d w')
end Rx

set_option maxRecDepth 100000 in
set_option maxHeartbeats 1000000 in
theorem classOf_any (l : List UInt8) (w : World) : Calls Try.prog 56 #[.string ⟨l.toArray⟩] w (Rx.GaveS w (Rx.classOf l)) := by
  have HP := Lib.hid fun W => sPrefix_any l [92] W
  rw [Rx.pre_one] at HP
  have HZ1 : Hid (Try.zeroCells73.all (·.oneCell') = true) := Lib.hid (by rw [z_set]; exact Rx.cel_one _)
  have HE : Hid (∀ w', Below w.heap.size w w' → Rx.GaveS w none (.returned (.tuple #[.agg Try.zeroCells73, .bool false])) w') := Lib.hid fun w' hb => by rw [z_set]; exact ⟨hb, .inr ⟨rfl, _, rfl⟩⟩
  by_cases h2 : l.length < 2
  · have hn : Rx.classOf l = none := by
      cases l with
      | nil => rfl
      | cons a r =>
        cases r with
        | nil => rfl
        | cons c r => simp at h2; omega
    rw [hn]
    have hI : (l.length : Int) < 2 := by omega
    clear hn HP h2
    go_enter Try.func56, Try.ntmps56
    go_wp2_with ((with_reducible refine Rx.stset_new Try.zeroCells73 _ z_size HZ1.out z_size ?_ ?_ ?_); (focus simp [Act.eval, Act.put]); (focus simp [Act.eval, Act.put]))
    ((try simp only [Exit.inBlock, Exit.then]); refine bodyPost_ret (Rx.ret_set rfl _ ?_ (RowAt.new w _ _) z_size) rfl ?_; (focus simp); simp only [Array.getD_eq_getD_getElem?])
    exact HE.out _ ((Below.refl _ _).alloc (Nat.le_refl _) _)
  · obtain ⟨a, c, r, rfl⟩ : ∃ a c r, l = a :: c :: r := by
      cases l with
      | nil => simp at h2
      | cons a r =>
        cases r with
        | nil => simp at h2
        | cons c r => exact ⟨a, c, r, rfl⟩
    have hI : ¬ ((a :: c :: r).length : Int) < 2 := by simp; omega
    by_cases ha : a = 92
    · subst ha
      have HP2 : Hid (∀ W, Calls Try.prog 31 #[.string ⟨(92 :: c :: r).toArray⟩, .string ⟨#[92]⟩] W fun e w' => e = .returned (.bool true) ∧ W = w') := HP
      have HC := Lib.hid fun W => class_any c W
      have he : Rx.classOf (92 :: c :: r) = Rx.cls c := rfl
      rw [he]
      clear HP he h2
      cases hc : Rx.cls c with
      | none =>
        rw [hc] at HC
        have HX : Hid (∀ f w', Below w.heap.size w w' → Rx.GaveS w none (.returned (.tuple #[.agg (Rx.cel f), .bool false])) w') := Lib.hid fun f w' hb => ⟨hb, .inr ⟨rfl, _, rfl⟩⟩
        clear hc
        go_enter Try.func56, Try.ntmps56
        go_wp2_with first
          | (go_at_call 31; go_must (refine (HP2.out _).mono ?_; rintro e w1 ⟨rfl, rfl⟩))
          | (go_at_call 66; go_must (refine (HC.out _).mono ?_; rintro e w1 hg; obtain ⟨f, rfl, hb⟩ := hg.no; have HB1 := Lib.hid (lowBox' (hb.mono (by simp))); have HR1 := Lib.hid ((RowAt.new w Try.zeroCells73 73).below hb (by simp)); clear hb hg))
          | ((with_reducible refine Rx.stset (Rx.cel f) Try.zeroCells73 (Rx.cel_size f) (Rx.cel_one f) z_size ?_ ?_ (HR1.out) ?_); (focus simp [Act.eval, Act.put]); (focus simp [Act.eval, Act.put]))
        ((try simp only [Exit.inBlock, Exit.then]); refine bodyPost_ret (Rx.ret_set rfl _ ?_ (Rx.row_setRow HR1.out _) (Rx.cel_size f)) rfl ?_; (focus simp); simp only [Array.getD_eq_getD_getElem?])
        exact HX.out _ _ (Rx.below_setRow HB1.out (Nat.le_refl _) _)
      | some f =>
        rw [hc] at HC
        have HX : Hid (∀ w', Below w.heap.size w w' → Rx.GaveS w (some f) (.returned (.tuple #[.agg (Rx.cel f), .bool true])) w') := Lib.hid fun w' hb => ⟨hb, .inl ⟨f, rfl, rfl⟩⟩
        clear hc
        go_enter Try.func56, Try.ntmps56
        go_wp2_with first
          | (go_at_call 31; go_must (refine (HP2.out _).mono ?_; rintro e w1 ⟨rfl, rfl⟩))
          | (go_at_call 66; go_must (refine (HC.out _).mono ?_; rintro e w1 hg; obtain ⟨rfl, hb⟩ := hg.yes; have HB1 := Lib.hid (lowBox' (hb.mono (by simp))); have HR1 := Lib.hid ((RowAt.new w Try.zeroCells73 73).below hb (by simp)); clear hb hg))
          | ((with_reducible refine Rx.stset (Rx.cel f) Try.zeroCells73 (Rx.cel_size f) (Rx.cel_one f) z_size ?_ ?_ (HR1.out) ?_); (focus simp [Act.eval, Act.put]); (focus simp [Act.eval, Act.put]))
        ((try simp only [Exit.inBlock, Exit.then]); refine bodyPost_ret (Rx.ret_set rfl _ ?_ (Rx.row_setRow HR1.out _) (Rx.cel_size f)) rfl ?_; (focus simp); simp only [Array.getD_eq_getD_getElem?])
        exact HX.out _ (Rx.below_setRow HB1.out (Nat.le_refl _) _)
    · have hs : Rx.starts 92 (a :: c :: r) = false := by show (a == 92) = false; simpa using ha
      rw [hs] at HP
      have HP2 : Hid (∀ W, Calls Try.prog 31 #[.string ⟨(a :: c :: r).toArray⟩, .string ⟨#[92]⟩] W fun e w' => e = .returned (.bool false) ∧ W = w') := HP
      have he : Rx.classOf (a :: c :: r) = none := by show (if a = 92 then _ else _) = _; rw [if_neg ha]
      rw [he]
      clear HP he hs h2 ha
      go_enter Try.func56, Try.ntmps56
      go_wp2_with first
        | (go_at_call 31; go_must (refine (HP2.out _).mono ?_; rintro e w1 ⟨rfl, rfl⟩))
        | ((with_reducible refine Rx.stset_new Try.zeroCells73 _ z_size HZ1.out z_size ?_ ?_ ?_); (focus simp [Act.eval, Act.put]); (focus simp [Act.eval, Act.put]))
      ((try simp only [Exit.inBlock, Exit.then]); refine bodyPost_ret (Rx.ret_set rfl _ ?_ (RowAt.new w _ _) z_size) rfl ?_; (focus simp); simp only [Array.getD_eq_getD_getElem?])
      exact HE.out _ ((Below.refl _ _).alloc (Nat.le_refl _) _)

set_option maxRecDepth 100000 in
set_option maxHeartbeats 1000000 in
theorem takeClass_any {w : World} {b g d : Nat} {l : List UInt8} (h : Rx.PsAt w b l g d) :
    Calls Try.prog 49 #[.pointer (some ⟨b, 0, none⟩)] w (Rx.TookS w b ((Rx.classOf l).map fun f => (f, l.drop 2)) l g d) := by
  have c0 := h.c0
  have hbl := h.lt
  have HC := Lib.hid fun W => classOf_any l W
  have HH := Lib.hid h
  clear h
  cases hc : Rx.classOf l with
  | none =>
    rw [hc] at HC
    clear hc
    have HX : Hid (∀ f w', Rx.Took w b l g d w' → Rx.TookS w b (Option.map (fun f => (f, l.drop 2)) none) l g d (.returned (.tuple #[.agg (Rx.cel f), .bool false])) w') := Lib.hid fun f w' hb => .inr ⟨rfl, ⟨f, rfl⟩, hb⟩
    go_enter Try.func49, Try.ntmps49
    go_wp2_with first
      | (go_at_call 56; go_must (refine (HC.out _).mono ?_; rintro e w1 hg; obtain ⟨f, rfl, hb⟩ := hg.no; have HB1 := Lib.hid (lowBox' (hb.mono (by simp))); have HR1 := Lib.hid ((RowAt.new w Try.zeroCells73 73).below hb (by simp)); have hws := HR1.out.lt; clear hb hg))
      | ((with_reducible refine Rx.stset_new (Rx.cel f) _ (Rx.cel_size f) (Rx.cel_one f) z_size ?_ ?_ ?_); (focus simp [Act.eval, Act.put]); (focus simp [Act.eval, Act.put]))
      | ((with_reducible refine Rx.ldset (Rx.cel f) (Rx.cel_size f) ?_ (RowAt.new w1 _ _) ?_); (focus simp [Act.eval, Act.put]))
      | ((with_reducible refine Rx.stset (Rx.cel f) Try.zeroCells73 (Rx.cel_size f) (Rx.cel_one f) z_size ?_ ?_ (HR1.out.alloc _) ?_); (focus simp [Act.eval, Act.put]); (focus simp [Act.eval, Act.put]))
    ((try simp only [Exit.inBlock, Exit.then]); refine bodyPost_ret (Rx.ret_set rfl _ ?_ (Rx.row_setRow (HR1.out.alloc _) _) (Rx.cel_size f)) rfl ?_; (focus simp); simp only [Array.getD_eq_getD_getElem?])
    exact HX.out _ _ ((Rx.Took.refl HH.out).on (Rx.below_setRow (HB1.out.alloc (Nat.le_of_lt hws) _) (Nat.le_refl _) _))
  | some f =>
    rw [hc] at HC
    have hlen : ∃ a c r, l = a :: c :: r := by
      cases l with
      | nil => cases hc
      | cons a r =>
        cases r with
        | nil => cases hc
        | cons c r => exact ⟨a, c, r, rfl⟩
    clear hc
    obtain ⟨a, c, r, rfl⟩ := hlen
    have HD := Lib.hid (Rx.drop2 a c r)
    have HX : Hid (∀ w', Rx.Took w b r g d w' → Rx.TookS w b (Option.map (fun f => (f, (a :: c :: r).drop 2)) (some f)) (a :: c :: r) g d (.returned (.tuple #[.agg (Rx.cel f), .bool true])) w') := Lib.hid fun w' hb => .inl ⟨f, r, rfl, rfl, hb⟩
    go_enter Try.func49, Try.ntmps49
    go_wp2_with first
      | (go_at_call 56; go_must (refine (HC.out _).mono ?_; rintro e w1 hg; obtain ⟨rfl, hb⟩ := hg.yes; have HB1 := Lib.hid (lowBox' (hb.mono (by simp))); have HR1 := Lib.hid ((RowAt.new w Try.zeroCells73 73).below hb (by simp)); have hws := HR1.out.lt; have HP1 := Lib.hid (HH.out.on HB1.out); have hb1 := HP1.out.lt; have d0 := HP1.out.c0; have e0 := RowAt.frozen HP1.out 0; have HD1 : Hid (RowAt ((w1.setCell ⟨b, 0, none⟩ (.string ⟨r.toArray⟩)).alloc (.cells (Rx.cel f) 73)) w1.heap.size 73 (Rx.cel f)) := Lib.hid (by simpa using RowAt.new (w1.setCell ⟨b, 0, none⟩ (.string ⟨r.toArray⟩)) (Rx.cel f) 73); have HD2 : Hid (RowAt ((w1.setCell ⟨b, 0, none⟩ (.string ⟨r.toArray⟩)).alloc (.cells (Rx.cel f) 73)) w.heap.size 73 Try.zeroCells73) := Lib.hid ((HR1.out.far (by show w.heap.size ≠ b; omega) _).alloc _); have HD3 : Hid (Rx.Took w b r g d ((w1.setCell ⟨b, 0, none⟩ (.string ⟨r.toArray⟩)).alloc (.cells (Rx.cel f) 73))) := Lib.hid ((((Rx.Took.refl HH.out).on HB1.out).set0 r).on ((Below.refl _ _).alloc (Nat.le_refl _) _)); rw [← HD.out] at HD1 HD2 HD3; clear hb hg))
      | ((with_reducible refine Rx.stset_new (Rx.cel f) _ (Rx.cel_size f) (Rx.cel_one f) z_size ?_ ?_ ?_); (focus simp [Act.eval, Act.put]); (focus simp [Act.eval, Act.put]))
      | ((with_reducible refine Rx.ldset (Rx.cel f) (Rx.cel_size f) ?_ (HD1.out) ?_); (focus simp [Act.eval, Act.put]))
      | ((with_reducible refine Rx.stset (Rx.cel f) Try.zeroCells73 (Rx.cel_size f) (Rx.cel_one f) z_size ?_ ?_ (HD2.out) ?_); (focus simp [Act.eval, Act.put]); (focus simp [Act.eval, Act.put]))
    ((try simp only [Exit.inBlock, Exit.then]); refine bodyPost_ret (Rx.ret_set rfl _ ?_ (Rx.row_setRow HD2.out _) (Rx.cel_size f)) rfl ?_; (focus simp); simp only [Array.getD_eq_getD_getElem?])
    exact HX.out _ (HD3.out.setRow (Nat.le_refl _) hbl _)

set_option maxRecDepth 100000 in
set_option maxHeartbeats 1000000 in
theorem isAlone_any (l : List UInt8) (w : World) : Calls Try.prog 64 #[.string ⟨l.toArray⟩] w fun e w' => e = .returned (.bool (Rx.isAlone l)) ∧ Below w.heap.size w w' := by
  have HT := Lib.hid fun W => sCut_any l [45] W
  have hcut : Rx.cutP [45] l = if Rx.starts 45 l then l.drop 1 else l := Rx.cut_one 45 l
  rw [hcut, Rx.pre_one] at HT
  clear hcut
  have HCl := Lib.hid fun m W => classOf_any m W
  have HPr := Lib.hid fun (m : List UInt8) W => sPrefix_any m [93] W
  cases hs : Rx.starts 45 l
  · have he : Rx.isAlone l = false := by
      cases l with
      | nil => rfl
      | cons b r => show (b == 45 && _) = false; rw [show (b == 45) = false from hs]; rfl
    rw [he]
    rw [hs] at HT
    have HT2 : Hid (∀ W, Calls Try.prog 28 #[.string ⟨l.toArray⟩, .string ⟨#[45]⟩] W fun e w' => e = .returned (.tuple #[.string ⟨l.toArray⟩, .bool false]) ∧ W = w') := HT
    have HC := Lib.hid fun W => HCl.out l W
    clear he hs HT HCl HPr
    cases hc : Rx.classOf l with
    | none =>
      rw [hc] at HC
      clear hc
      go_enter Try.func64, Try.ntmps64
      go_wp2_with first
        | (go_at_call 28; go_must (refine (HT2.out _).mono ?_; rintro e w1 ⟨rfl, rfl⟩))
        | (go_at_call 56; go_must (refine (HC.out _).mono ?_; rintro e w1 hg; obtain ⟨f, rfl, hb⟩ := hg.no; have HB1 := Lib.hid hb; have hws := hb.size; clear hb hg))
        | ((with_reducible refine Rx.stset_new (Rx.cel f) _ (Rx.cel_size f) (Rx.cel_one f) z_size ?_ ?_ ?_); (focus simp [Act.eval, Act.put]); (focus simp [Act.eval, Act.put]))
      go_ret
      exact ⟨rfl, HB1.out.alloc hws _⟩
    | some f =>
      rw [hc] at HC
      clear hc
      go_enter Try.func64, Try.ntmps64
      go_wp2_with first
        | (go_at_call 28; go_must (refine (HT2.out _).mono ?_; rintro e w1 ⟨rfl, rfl⟩))
        | (go_at_call 56; go_must (refine (HC.out _).mono ?_; rintro e w1 hg; obtain ⟨rfl, hb⟩ := hg.yes; have HB1 := Lib.hid hb; have hws := hb.size; clear hb hg))
        | ((with_reducible refine Rx.stset_new (Rx.cel f) _ (Rx.cel_size f) (Rx.cel_one f) z_size ?_ ?_ ?_); (focus simp [Act.eval, Act.put]); (focus simp [Act.eval, Act.put]))
      go_ret
      exact ⟨rfl, HB1.out.alloc hws _⟩
  · obtain ⟨r, rfl⟩ : ∃ r, l = 45 :: r := by
      cases l with
      | nil => cases hs
      | cons b r => exact ⟨r, by rw [show b = 45 by simpa [Rx.starts] using hs]⟩
    have HT2 : Hid (∀ W, Calls Try.prog 28 #[.string ⟨(45 :: r).toArray⟩, .string ⟨#[45]⟩] W fun e w' => e = .returned (.tuple #[.string ⟨r.toArray⟩, .bool true]) ∧ W = w') := HT
    have HC := Lib.hid fun W => HCl.out r W
    have HP2 := Lib.hid fun W => HPr.out r W
    rw [Rx.pre_one] at HP2
    have he : Rx.isAlone (45 :: r) = ((Rx.classOf r).isSome || Rx.starts 93 r) := rfl
    rw [he]
    clear he hs HT HCl HPr
    generalize Rx.starts 93 r = st at *
    cases hc : Rx.classOf r with
    | none =>
      rw [hc] at HC
      clear hc
      go_enter Try.func64, Try.ntmps64
      go_wp2_with first
        | (go_at_call 28; go_must (refine (HT2.out _).mono ?_; rintro e w1 ⟨rfl, rfl⟩))
        | (go_at_call 56; go_must (refine (HC.out _).mono ?_; rintro e w1 hg; obtain ⟨f, rfl, hb⟩ := hg.no; have HB1 := Lib.hid hb; have hws := hb.size; clear hb hg))
        | (go_at_call 31; go_must (refine (HP2.out _).mono ?_; rintro e w2 ⟨rfl, rfl⟩))
        | ((with_reducible refine Rx.stset_new (Rx.cel f) _ (Rx.cel_size f) (Rx.cel_one f) z_size ?_ ?_ ?_); (focus simp [Act.eval, Act.put]); (focus simp [Act.eval, Act.put]))
      go_ret
      exact ⟨rfl, HB1.out.alloc hws _⟩
    | some f =>
      rw [hc] at HC
      clear hc
      go_enter Try.func64, Try.ntmps64
      go_wp2_with first
        | (go_at_call 28; go_must (refine (HT2.out _).mono ?_; rintro e w1 ⟨rfl, rfl⟩))
        | (go_at_call 56; go_must (refine (HC.out _).mono ?_; rintro e w1 hg; obtain ⟨rfl, hb⟩ := hg.yes; have HB1 := Lib.hid hb; have hws := hb.size; clear hb hg))
        | ((with_reducible refine Rx.stset_new (Rx.cel f) _ (Rx.cel_size f) (Rx.cel_one f) z_size ?_ ?_ ?_); (focus simp [Act.eval, Act.put]); (focus simp [Act.eval, Act.put]))
      go_ret
      exact ⟨rfl, HB1.out.alloc hws _⟩

set_option maxHeartbeats 1000000 in
theorem isRange_any {w : World} {b g d : Nat} {l : List UInt8} (h : Rx.PsAt w b l g d) :
    Calls Try.prog 65 #[.pointer (some ⟨b, 0, none⟩)] w fun e w' => e = .returned (.bool (Rx.isRange l)) ∧ Below w.heap.size w w' := by
  have c0 := h.c0
  have HB := Lib.hid (begins_one h 45)
  have HA := Lib.hid fun m W => isAlone_any m W
  have HH := Lib.hid h
  clear h
  cases hs : Rx.starts 45 l
  · have he : Rx.isRange l = false := by unfold Rx.isRange; rw [hs]; rfl
    rw [he]
    rw [hs] at HB
    clear he hs
    go_enter Try.func65, Try.ntmps65
    go_wp2_with (go_at_call 26; go_must (refine (HB.out).mono ?_; rintro e w1 ⟨rfl, rfl⟩))
    go_ret
    exact ⟨rfl, Below.refl _ _⟩
  · obtain ⟨r, rfl⟩ : ∃ r, l = 45 :: r := by
      cases l with
      | nil => cases hs
      | cons b r => exact ⟨r, by rw [show b = 45 by simpa [Rx.starts] using hs]⟩
    have he : Rx.isRange (45 :: r) = (!Rx.isAlone (45 :: r) && !Rx.isAlone r) := rfl
    rw [he]
    rw [hs] at HB
    have H1 := Lib.hid fun W => HA.out (45 :: r) W
    have H2 := Lib.hid fun W => HA.out r W
    have HD := Lib.hid (Rx.drop1 45 r)
    clear he hs HA
    generalize Rx.isAlone r = a2 at *
    generalize Rx.isAlone (45 :: r) = a1 at *
    cases a1
    · go_enter Try.func65, Try.ntmps65
      go_wp2_with first
        | (go_at_call 26; go_must (refine (HB.out).mono ?_; rintro e w1 ⟨rfl, rfl⟩))
        | (go_at_call 64; ((with_reducible refine (H1.out _).mono ?_); rintro e w2 ⟨rfl, hb⟩; have d0 := (HH.out.on hb).c0; have HB1 := Lib.hid hb; clear hb))
        | (go_at_call 64; rw [HD.out]; ((with_reducible refine (H2.out _).mono ?_); rintro e w3 ⟨rfl, hb⟩; have HB2 := Lib.hid (HB1.out.trans (hb.mono HB1.out.size)); clear hb))
      go_ret
      exact ⟨rfl, HB2.out⟩
    · go_enter Try.func65, Try.ntmps65
      go_wp2_with first
        | (go_at_call 26; go_must (refine (HB.out).mono ?_; rintro e w1 ⟨rfl, rfl⟩))
        | (go_at_call 64; ((with_reducible refine (H1.out _).mono ?_); rintro e w2 ⟨rfl, hb⟩; have HB1 := Lib.hid hb; clear hb))
      go_ret
      exact ⟨rfl, HB1.out⟩
end Go.Proofs.Ytajijcnfhijanaa
