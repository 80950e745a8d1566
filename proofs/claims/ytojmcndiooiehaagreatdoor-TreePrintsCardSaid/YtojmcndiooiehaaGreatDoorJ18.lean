/-
  TeCall: CONTRACTS: chapter 15: the program's call, over the contract of an expression within it.
-/
import Derived.Test.YtojmcndiooiehaaGreatDoorJ17
import Derived.Test.YtojmcndiooiehaaGreatDoorJ11

set_option linter.unusedSimpArgs false
set_option linter.unusedVariables false
namespace Go.Proofs.YtojmcndiooiehaaGreatDoor
open Go.RowKit
open Me

namespace Te
/-- What an expression leaves: a node, or an error. -/
def ExprR (w : World) (b : Nat) (c : Int) (res : Res) (e : Ending) (w' : World) : Prop :=
  ∃ (k : Int) (s : List UInt8) (n : Int) (ks : List Nd) (v : Value) (er : Int), e = .returned (.tuple #[.agg #[.int .i64 k, .string ⟨s.toArray⟩, .int .i64 n, v], .int .i64 er]) ∧ Kp (fun i => i = b) w w' ∧
    ((er = 0 ∧ ∃ r, res = .ok (.mk k s n ks, r) ∧ Ps w' b r c ∧ At w' (fun i => w.heap.size ≤ i) (.mk k s n ks) v) ∨ (er ≠ 0 ∧ res = .error er ∧ k = 0 ∧ s = [] ∧ n = 0 ∧ ks = [] ∧ v = .slice none 0 0))
def Small (l : List Tok) : Prop := l.length ≤ 4096 ∧ ∀ t ∈ l, t.2.length ≤ 4096
theorem Small.drop {l : List Tok} (h : Small l) : Small (l.drop 1) := ⟨by have := h.1; simp; omega, fun t ht => h.2 t (List.mem_of_mem_drop ht)⟩
theorem Small.suffix {l : List Tok} {r : List Tok} (h : Small l) (hs : r <:+ l) : Small r := ⟨Nat.le_trans hs.length_le h.1, fun t ht => h.2 t (hs.subset ht)⟩
/-- The contract of an expression that stands in c calls. -/
def ExprC (c : Int) (d : Nat) : Prop := ∀ (l : List Tok) (b : Nat) (w : World), Small l → Ps w b l c → Calls Tryz.prog 32 #[.pointer (some ⟨b, 0, none⟩)] w (ExprR w b c (expr d l))
def callRes (d : Nat) (t : List UInt8) (l : List Tok) : Res := if hd 4 l = true then .ok (.mk 1 t 0 [], l.drop 1) else kidsA d t [] l
/-- How many tokens are left. -/
def left (W : World) (b : Nat) : Nat := match W.cell? ⟨b, 0, none⟩ with
  | some (.slice _ n _) => n
  | _ => 0
theorem Ps.left {W : World} {b : Nat} {l : List Tok} {c : Int} (h : Ps W b l c) : left W b = l.length := by
  obtain ⟨A, cp, h, _⟩ := h
  unfold Te.left
  rw [h.cell 0]; rfl
theorem Ps.setC {W : World} {b : Nat} {l : List Tok} {c : Int} (h : Ps W b l c) (c2 : Int) : Ps (W.setCell ⟨b, 1, none⟩ (.int .i64 c2)) b l c2 := by
  obtain ⟨A, cp, h1, h2, h3⟩ := h
  exact ⟨A, cp, h1.set_ 1 _, h2, h3.kp ((Kp.refl (fun i => i = b) W).setCell ⟨b, 1, none⟩ (.inr rfl) _) fun i _ h => Nat.ne_of_lt h⟩
theorem Ps.c1 {W : World} {b : Nat} {l : List Tok} {c : Int} (h : Ps W b l c) : W.cell? ⟨b, 1, none⟩ = some (.int .i64 c) ∧ W.frozen? ⟨b, 1, none⟩ = false := by
  obtain ⟨A, cp, h1, h2, h3⟩ := h
  exact ⟨(h1.cell 1).trans rfl, h1.frozen 1⟩
/-- A block beside the parser's stays. -/
theorem beside {w w1 : World} {b g : Nat} {T : TypeId} {cs : Array Value} (h : RowAt w g T cs) (k : Kp (fun i => i = b) w w1) (hn : g ≠ b) : RowAt w1 g T cs := (k.block g h.lt hn).trans h
theorem kids_suffix {E : List Tok → Res} (h : ∀ l n r, E l = .ok (n, r) → r <:+ l) (t : List UInt8) : ∀ f acc l n r, kids E t f acc l = .ok (n, r) → r <:+ l
  | 0, acc, l, n, r, e => by cases e
  | f + 1, acc, l, n, r, e => by
    rw [kids] at e
    cases he : E l with
    | error x => rw [he] at e; cases e
    | ok p =>
      obtain ⟨m, q⟩ := p
      have h1 := h l m q he
      rw [he] at e
      dsimp only at e
      split at e
      · injection e with e; injection e with e1 e2
        rw [← e2]; exact (List.drop_suffix 1 q).trans h1
      · split at e
        · exact ((kids_suffix h t f _ _ n r e).trans (List.drop_suffix 1 q)).trans h1
        · cases e
theorem expr_suffix : ∀ d l n r, expr d l = .ok (n, r) → r <:+ l
  | 0, l, n, r, e => by cases e
  | d + 1, l, n, r, e => by
    cases l with
    | nil => rw [expr] at e; cases e
    | cons t q =>
      rw [expr] at e
      split at e
      · injection e with e; injection e with e1 e2; rw [← e2]; exact List.suffix_cons t q
      · split at e
        · cases e
        · split at e
          · split at e
            · injection e with e; injection e with e1 e2; rw [← e2]
              exact ((List.drop_suffix 1 _).trans (List.drop_suffix 1 q)).trans (List.suffix_cons t q)
            · exact ((kids_suffix (expr_suffix d) t.2 _ _ _ n r e).trans (List.drop_suffix 1 q)).trans (List.suffix_cons t q)
          · split at e
            · injection e with e; injection e with e1 e2; rw [← e2]; exact List.suffix_cons t q
            · cases e
theorem hd_hdT {k : Int} (hk : k ≠ 0) (l : List Tok) : hd k l = decide ((hdT l).1 = k) := by
  cases l with
  | nil => exact (decide_eq_false (fun e : (0 : Int) = k => hk e.symm)).symm
  | cons t r => rfl
theorem tokField (kk : Int) (s : ByteArray) (W : World) : (Instr.field 67 (.agg #[.int .i64 kk, .string s]) 0).run Tryz.prog W = .ok (.int .i64 kk) W := by
  kernel_rfl
/-- A call under way, as it lies in memory. -/
structure CallM (w wr : World) (b : Nat) (c : Int) (t : List UInt8) (acc : List Nd) (l : List Tok) (v : Value) : Prop where
  kp : Kp (fun i => i = b) w wr
  ps : Ps wr b l c
  out : RowAt wr w.heap.size ndT #[.int .i64 0, .string ⟨#[]⟩, .int .i64 0, .slice none 0 0]
  row : RowAt wr (w.heap.size + 1) ndT #[.int .i64 1, .string ⟨t.toArray⟩, .int .i64 0, v]
  own : OwnK (w.heap.size + 2) wr v acc
theorem CallM.step {w wr w2 : World} {b : Nat} {c c2 : Int} {t : List UInt8} {acc : List Nd} {l l2 : List Tok} {v : Value} (h : CallM w wr b c t acc l v) (hb : b < w.heap.size) (k : PsD wr b l2 c2 w2) : CallM w w2 b c2 t acc l2 v :=
  ⟨h.kp.trans k.kp fun _ _ e => e, k.ps, beside h.out k.kp (by omega), beside h.row k.kp (by omega), h.own.kp k.kp fun i hi _ e => by have e : i = b := e; omega⟩
theorem CallM.push {w wr w2 w2' w3 : World} {b : Nat} {c : Int} {t : List UInt8} {acc : List Nd} {l : List Tok} {v v2 kv : Value} {x : Nd} {xs : List Value} (h : CallM w w2 b c t acc l v) (hb : b < w.heap.size) (hw : w.heap.size + 2 ≤ w2.heap.size)
    (hk : Below w2.heap.size w2 w2') (ho : w2'.ownsRow (w.heap.size + 2) ndT 4 v acc.length xs) (ha : Ats w2' (fun i => w.heap.size + 2 ≤ i ∧ v.ownBlock ≠ some i) acc xs)
    (hx : At w2 (fun i => wr.heap.size ≤ i) x kv) (hwr : w.heap.size + 2 ≤ wr.heap.size) (hv : ∀ g, v.ownBlock = some g → g < wr.heap.size)
    (h2 : w3.ownsRow (w.heap.size + 2) ndT 4 v2 (acc.length + 1) (xs ++ cel x kv)) (hg : w2'.grownBy w3 v.ownBlock) (hat : v2.ownBlock = v.ownBlock ∨ v2.ownBlock = some w2'.heap.size) : CallM w (w3.setCell ⟨w.heap.size + 1, 3, none⟩ v2) b c t (acc ++ [x]) l v2 := by
  have hvl := fun g hg => World.ownsRow.lt ho g hg
  have hz := hk.size
  have hB3 : Below (w.heap.size + 2) w2 w3 := (hk.mono hw).grown hg (by omega) (fun g e => (hvl g e).1)
  have hx' : At w2' (fun i => w.heap.size + 2 ≤ i ∧ v.ownBlock ≠ some i) x kv := (hx.below hk).mono fun i _ hi => ⟨by have hi : wr.heap.size ≤ i := hi; omega, fun e => by have := hv i e; have hi : wr.heap.size ≤ i := hi; omega⟩
  have hO := OwnK.more ha hx' h2 hg hat
  have hB4 : Below (w.heap.size + 1) w2 (w3.setCell ⟨w.heap.size + 1, 3, none⟩ v2) := (show Below (w.heap.size + 1) w2 w3 from hB3.mono (Nat.le_succ _)).setCell (Nat.le_refl _) _
  have hrow : RowAt w3 (w.heap.size + 1) ndT #[.int .i64 1, .string ⟨t.toArray⟩, .int .i64 0, v] := h.row.below hB3 (by omega)
  refine ⟨?_, h.ps.far (hB4.mono (by omega)), h.out.below hB4 (by omega), hrow.set_ 3 _, hO.kp (O := fun i => i = w.heap.size + 1) ((Kp.refl (fun i => i = w.heap.size + 1) w3).setCell ⟨w.heap.size + 1, 3, none⟩ (.inr rfl) _) fun i hi _ e => by have e : i = w.heap.size + 1 := e; omega⟩
  have k1 : Kp (fun i => i = b) w2 w2' := Kp.of_below hk
  refine ⟨(hB4.os).trans h.kp.os, hB4.tape.trans h.kp.tape, hB4.output.trans h.kp.output, Nat.le_trans h.kp.size hB4.size, fun i hi hn => (hB4.block i (by omega)).trans (h.kp.block i hi hn)⟩
end Te

set_option maxRecDepth 100000 in
set_option maxHeartbeats 8000000 in
theorem tcall_any {c : Int} {d : Nat} (c0 : 0 ≤ c) (c1 : c ≤ 63) (hX : Te.ExprC (c + 1) d) (t : List UInt8) (l : List Te.Tok) (b : Nat) (w : World) (hl : Te.Small l) (h : Te.Ps w b l c) :
    Calls Tryz.prog 56 #[.pointer (some ⟨b, 0, none⟩), .string ⟨t.toArray⟩] w (Te.ExprR w b c (Te.callRes d t l)) := by
  have hbl := h.lt
  have hb0 : b ≠ w.heap.size := by omega
  have hb1 : b ≠ w.heap.size + 1 := by omega
  obtain ⟨w0, hw0⟩ : ∃ w0, w0 = (w.alloc (.cells #[.int .i64 0, .string ⟨#[]⟩, .int .i64 0, .slice none 0 0] 24)).alloc (.cells #[.int .i64 1, .string ⟨t.toArray⟩, .int .i64 0, .slice none 0 0] 24) := ⟨_, rfl⟩
  have HB0 : Hid (Below w.heap.size w w0) := Lib.hid (by rw [hw0]; exact ((Below.refl _ _).alloc (Nat.le_refl _) _).alloc (by simp) _)
  have HO0 : Hid (RowAt w0 w.heap.size 24 #[.int .i64 0, .string ⟨#[]⟩, .int .i64 0, .slice none 0 0]) := Lib.hid (by rw [hw0]; exact (RowAt.new w _ _).alloc _)
  have HR0 : Hid (RowAt w0 (w.heap.size + 1) 24 #[.int .i64 1, .string ⟨t.toArray⟩, .int .i64 0, .slice none 0 0]) := Lib.hid (by rw [hw0]; have := RowAt.new (w.alloc (.cells #[.int .i64 0, .string ⟨#[]⟩, .int .i64 0, .slice none 0 0] 24)) #[.int .i64 1, .string ⟨t.toArray⟩, .int .i64 0, .slice none 0 0] 24; simpa using this)
  have HP0 : Hid (Te.Ps w0 b l c) := Lib.hid (h.kp HB0.out)
  have hs0 : w.heap.size + 2 = w0.heap.size := by rw [hw0]; simp
  have HT := Lib.hid (ttakes_any HP0.out 4)
  have HSM := Lib.hid hl
  have HX := Lib.hid hX
  have kc : IntKind.i64.wrap (c + 1) = c + 1 := IntWalk.i64_in _ (by omega)
  have kd : IntKind.i64.wrap (c + 1 - 1) = c := by rw [Int.add_sub_cancel]; exact IntWalk.i64_in _ (by omega)
  clear h hl hX
  by_cases h4 : Te.hd 4 l = true
  · have HQ : Hid (Te.callRes d t l = .ok (.mk 1 t 0 [], l.drop 1)) := Lib.hid (by unfold Te.callRes; rw [if_pos h4])
    rw [h4, if_pos rfl] at HT
    generalize Te.callRes d t l = res at *
    clear h4
    go_enter Tryz.func56, Tryz.ntmps56
    go_wp2_with fail
    rw [← hw0]
    clear hw0
    go_at_call 55
    refine HT.out.mono ?_
    rintro e w1 ⟨rfl, hd1⟩
    have HD := Lib.hid hd1
    have hr1 : RowAt w1 (w.heap.size + 1) 24 #[.int .i64 1, .string ⟨t.toArray⟩, .int .i64 0, .slice none 0 0] := Te.beside HR0.out hd1.kp (by omega)
    have ho1 : RowAt w1 w.heap.size 24 #[.int .i64 0, .string ⟨#[]⟩, .int .i64 0, .slice none 0 0] := Te.beside HO0.out hd1.kp (by omega)
    have x0 : w1.cell? ⟨w.heap.size + 1, 0, none⟩ = some (.int .i64 1) := (hr1.cell 0).trans rfl; have y0 : w1.frozen? ⟨w.heap.size + 1, 0, none⟩ = false := hr1.frozen 0; have x1 : w1.cell? ⟨w.heap.size + 1, 1, none⟩ = some (.string ⟨t.toArray⟩) := (hr1.cell 1).trans rfl; have y1 : w1.frozen? ⟨w.heap.size + 1, 1, none⟩ = false := hr1.frozen 1; have x2 : w1.cell? ⟨w.heap.size + 1, 2, none⟩ = some (.int .i64 0) := (hr1.cell 2).trans rfl; have y2 : w1.frozen? ⟨w.heap.size + 1, 2, none⟩ = false := hr1.frozen 2; have x3 : w1.cell? ⟨w.heap.size + 1, 3, none⟩ = some (.slice none 0 0) := (hr1.cell 3).trans rfl; have y3 : w1.frozen? ⟨w.heap.size + 1, 3, none⟩ = false := hr1.frozen 3
    have p0 : w1.cell? ⟨w.heap.size, 0, none⟩ = some (.int .i64 0) := (ho1.cell 0).trans rfl; have q0 : w1.frozen? ⟨w.heap.size, 0, none⟩ = false := ho1.frozen 0; have p1 : w1.cell? ⟨w.heap.size, 1, none⟩ = some (.string ⟨#[]⟩) := (ho1.cell 1).trans rfl; have q1 : w1.frozen? ⟨w.heap.size, 1, none⟩ = false := ho1.frozen 1; have p2 : w1.cell? ⟨w.heap.size, 2, none⟩ = some (.int .i64 0) := (ho1.cell 2).trans rfl; have q2 : w1.frozen? ⟨w.heap.size, 2, none⟩ = false := ho1.frozen 2; have p3 : w1.cell? ⟨w.heap.size, 3, none⟩ = some (.slice none 0 0) := (ho1.cell 3).trans rfl; have q3 : w1.frozen? ⟨w.heap.size, 3, none⟩ = false := ho1.frozen 3
    have l1 := hr1.lt
    clear hd1 hr1 ho1
    go_wp2_with fail
    refine bodyPost_ret ((results_cell_tmp rfl _ _ _).trans (by simp [go_sem, *]; rfl)) rfl ?_
    refine ⟨1, t, 0, [], .slice none 0 0, 0, rfl, ?_, .inl ⟨rfl, l.drop 1, HQ.out, ?_, Te.At.zero _ _ _ _ _⟩⟩
    · have k1 : Kp (fun i => i = b) w w1 := (Kp.of_below HB0.out).trans HD.out.kp fun _ _ e => e
      exact (((k1.setCell _ (.inl (Nat.le_refl _)) _).setCell _ (.inl (Nat.le_refl _)) _).setCell _ (.inl (Nat.le_refl _)) _).setCell _ (.inl (Nat.le_refl _)) _
    · exact HD.out.ps.far ((((Below.refl _ _).setCell (by show b + 1 ≤ w.heap.size; omega) _).setCell (by show b + 1 ≤ w.heap.size; omega) _).setCell (by show b + 1 ≤ w.heap.size; omega) _ |>.setCell (by show b + 1 ≤ w.heap.size; omega) _)
  · have h4 : Te.hd 4 l = false := by simpa using h4
    obtain ⟨res, hres⟩ : ∃ res, res = Te.callRes d t l := ⟨_, rfl⟩
    rw [← hres]
    have HQ : Hid (res = Te.kidsA d t [] l) := Lib.hid (by rw [hres]; unfold Te.callRes; rw [if_neg (by simp [h4])])
    rw [h4, if_neg (by simp)] at HT
    clear h4 hres
    obtain ⟨i0, hi0, hz0, hz1, hz2⟩ := info_parts Te.ndinfo
    have HI := Lib.hid hi0
    have HZ := Lib.hid (And.intro hz0 (And.intro hz1 hz2))
    clear hi0 hz0 hz1 hz2
    go_enter Tryz.func56, Tryz.ntmps56
    go_wp2_with fail
    rw [← hw0]
    clear hw0
    go_at_call 55
    refine HT.out.mono ?_
    rintro e w1 ⟨rfl, hd1⟩
    have HM0 : Hid (Te.CallM w w0 b c t [] l (.slice none 0 0)) := Lib.hid ⟨Kp.of_below HB0.out, HP0.out, HO0.out, HR0.out, Te.OwnK.nil _ _⟩
    have HM1 := Lib.hid (HM0.out.step hbl hd1)
    have x1 := hd1.ps.c1.1
    have y1 := hd1.ps.c1.2
    clear hd1 HM0 HT HO0 HR0 HB0 HP0
    go_wp2_with fail
    have HM2 : Hid (Te.CallM w (w1.setCell ⟨b, 1, none⟩ (.int .i64 (c + 1))) b (c + 1) t [] l (.slice none 0 0)) := Lib.hid (HM1.out.step hbl ⟨HM1.out.ps.setC (c + 1), (Kp.refl (fun i => i = b) w1).setCell ⟨b, 1, none⟩ (.inr rfl) _⟩)
    clear HM1
    go_loopw [7, 8] (fun _ _ wr => Hid (∃ acc l2 v, Te.CallM w wr b (c + 1) t acc l2 v ∧ res = Te.kidsA d t acc l2 ∧ Te.Small l2 ∧ acc.length + l2.length ≤ 4096 ∧ w.heap.size + 2 ≤ wr.heap.size)) (fun _ _ wr => Te.left wr b)
    case atStart => exact Lib.hid ⟨[], l, _, HM2.out, HQ.out, HSM.out, by have := HSM.out.1; simpa using this, by have := HM2.out.row.lt; simp at this ⊢; omega⟩
    case round =>
      obtain ⟨acc, l2, v, hM, hE, hS, hC, hW⟩ := hrel.out
      clear hrel HM2 HQ
      have HM := Lib.hid hM
      have HE := Lib.hid hE
      have HS := Lib.hid hS
      have HXC := Lib.hid (HX.out l2 b wr hS hM.ps)
      have HLM : Hid (Te.left wr b = l2.length) := Lib.hid hM.ps.left
      clear hM hE hS
      go_wp2_with fail
      go_at_call 32
      refine HXC.out.mono ?_
      rintro e w2 ⟨k, s, n, ks, kv, er, rfl, hk, hres⟩
      have hz2 := hk.size
      rcases hres with ⟨rfl, r, hr, hps, hat⟩ | ⟨hne, hr, rfl, rfl, rfl, rfl, rfl⟩
      · have HR := Lib.hid hr
        have HA := Lib.hid hat
        have HM2 := Lib.hid (HM.out.step hbl ⟨hps, hk⟩)
        have HV : Hid (∀ g, v.ownBlock = some g → g < wr.heap.size) := Lib.hid fun g hg => (HM.out.own.lt g hg).2
        have hrl : r.length < l2.length := Te.expr_eats d l2 _ _ hr
        clear hr hat hps hk HM
        obtain ⟨Ak, ck, xk, rfl, _, _⟩ := HA.out.form
        obtain ⟨A, cp, rfl⟩ := HM2.out.own.form
        obtain ⟨xs, ho, ha⟩ := HM2.out.own
        have HBK : Hid (Below w2.heap.size w2 ((w2.alloc (.cells #[.int .i64 k, .string ⟨s.toArray⟩, .int .i64 n, .slice Ak ks.length ck] 24)).alloc (.cells #[.int .i64 k, .string ⟨s.toArray⟩, .int .i64 n, .slice Ak ks.length ck] 24))) := Lib.hid (((Below.refl _ _).alloc (Nat.le_refl _) _).alloc (by simp) _)
        have HOA : Hid (((w2.alloc (.cells #[.int .i64 k, .string ⟨s.toArray⟩, .int .i64 n, .slice Ak ks.length ck] 24)).alloc (.cells #[.int .i64 k, .string ⟨s.toArray⟩, .int .i64 n, .slice Ak ks.length ck] 24)).ownsRow (w.heap.size + 2) 24 4 (.slice A acc.length cp) acc.length xs) := Lib.hid (owns_keep ho fun g hg => HBK.out.block g (World.ownsRow.lt ho g hg).2)
        have HAA : Hid (Te.Ats ((w2.alloc (.cells #[.int .i64 k, .string ⟨s.toArray⟩, .int .i64 n, .slice Ak ks.length ck] 24)).alloc (.cells #[.int .i64 k, .string ⟨s.toArray⟩, .int .i64 n, .slice Ak ks.length ck] 24)) (fun i => w.heap.size + 2 ≤ i ∧ (Value.slice A acc.length cp).ownBlock ≠ some i) acc xs) := Lib.hid (ha.below HBK.out)
        have HRD : Hid (Rd ((w2.alloc (.cells #[.int .i64 k, .string ⟨s.toArray⟩, .int .i64 n, .slice Ak ks.length ck] 24)).alloc (.cells #[.int .i64 k, .string ⟨s.toArray⟩, .int .i64 n, .slice Ak ks.length ck] 24)) (fun b => b = w2.heap.size + 1) (some ⟨w2.heap.size + 1, 0, none⟩) (Te.cel (.mk k s n ks) (.slice Ak ks.length ck))) := Lib.hid (Rd.fresh (w2.alloc (.cells #[.int .i64 k, .string ⟨s.toArray⟩, .int .i64 n, .slice Ak ks.length ck] 24)) [.int .i64 k, .string ⟨s.toArray⟩, .int .i64 n, .slice Ak ks.length ck] 24 _ (by simp))
        have HON : Hid (∀ u ∈ Te.cel (.mk k s n ks) (.slice Ak ks.length ck), u.oneCell' = true) := Lib.hid (by
          intro u hu
          simp [Te.cel] at hu
          rcases hu with rfl | rfl | rfl | rfl <;> rfl)
        have hcn : acc.length + 1 ≤ 4096 := by omega
        have hlen : acc.length + 1 ≤ maxLen := by unfold maxLen; omega
        have d0 : w2.cell? ⟨w.heap.size + 1, 3, none⟩ = some (.slice A acc.length cp) := (HM2.out.row.cell 3).trans rfl
        have hlt2 := HM2.out.row.lt
        clear ho ha
        go_wp2_with (at_builtin; go_must (refine wpList_app _ rfl (.tmp 33) (.tmp 35) 22 rfl (w.heap.size + 2) 24 i0 _ 4 56 Tryz.underlying22 HI.out HZ.out.1 HZ.out.2.1 HZ.out.2.2 rfl (by decide) (.slice A acc.length cp) acc.length xs (by simp [Act.eval]) HOA.out (fun b => b = w2.heap.size + 1) (some ⟨w2.heap.size + 1, 0, none⟩) 1 1 (Te.cel (.mk k s n ks) (.slice Ak ks.length ck)) (by simp [Act.eval]) (by simp) HRD.out HON.out hlen (by omega) (by simp; omega) ?_; intro v2 w3 hown2 hg2 hat2 hnil2; obtain ⟨A3, n3, c3, rfl⟩ := own_slice hown2; have HMP := Lib.hid (HM2.out.push (w2' := _) hbl (by omega) HBK.out HOA.out HAA.out HA.out hW HV.out hown2 hg2 hat2); have hr3 : RowAt w3 (w.heap.size + 1) 24 #[.int .i64 1, .string ⟨t.toArray⟩, .int .i64 0, .slice A acc.length cp] := (hg2.block (w.heap.size + 1) (by simp; omega) (fun e => by have := (World.ownsRow.lt HOA.out _ e.symm).1; omega)).trans ((HM2.out.row.alloc _).alloc _); have d3 : w3.cell? ⟨w.heap.size + 1, 3, none⟩ = some (.slice A acc.length cp) := (hr3.cell 3).trans rfl; have f3 := hr3.frozen 3; have l3 := hr3.lt; clear hown2 hg2 hat2 hnil2 hr3))
        go_at_call 54
        refine (tnext_any HMP.out.ps).mono ?_
        rintro e w5 ⟨rfl, hd5⟩
        have HM5 := Lib.hid (HMP.out.step hbl hd5)
        have hz5 := hd5.size
        have e4 := Te.hd_hdT (k := 4) (by decide) r
        have e5 := Te.hd_hdT (k := 5) (by decide) r
        have hz3 : w.heap.size + 2 ≤ w5.heap.size := by have := HM5.out.row.lt; simp at hz5; have := HM2.out.row.lt; omega
        clear hd5 HMP
        have p0 : w5.cell? ⟨w.heap.size, 0, none⟩ = some (.int .i64 0) := (HM5.out.out.cell 0).trans rfl; have q0 : w5.frozen? ⟨w.heap.size, 0, none⟩ = false := HM5.out.out.frozen 0; have p1 : w5.cell? ⟨w.heap.size, 1, none⟩ = some (.string ⟨#[]⟩) := (HM5.out.out.cell 1).trans rfl; have q1 : w5.frozen? ⟨w.heap.size, 1, none⟩ = false := HM5.out.out.frozen 1; have p2 : w5.cell? ⟨w.heap.size, 2, none⟩ = some (.int .i64 0) := (HM5.out.out.cell 2).trans rfl; have q2 : w5.frozen? ⟨w.heap.size, 2, none⟩ = false := HM5.out.out.frozen 2; have p3 : w5.cell? ⟨w.heap.size, 3, none⟩ = some (.slice none 0 0) := (HM5.out.out.cell 3).trans rfl; have q3 : w5.frozen? ⟨w.heap.size, 3, none⟩ = false := HM5.out.out.frozen 3
        have x0 : w5.cell? ⟨w.heap.size + 1, 0, none⟩ = some (.int .i64 1) := (HM5.out.row.cell 0).trans rfl; have y0 : w5.frozen? ⟨w.heap.size + 1, 0, none⟩ = false := HM5.out.row.frozen 0; have x1 : w5.cell? ⟨w.heap.size + 1, 1, none⟩ = some (.string ⟨t.toArray⟩) := (HM5.out.row.cell 1).trans rfl; have y1 : w5.frozen? ⟨w.heap.size + 1, 1, none⟩ = false := HM5.out.row.frozen 1; have x2 : w5.cell? ⟨w.heap.size + 1, 2, none⟩ = some (.int .i64 0) := (HM5.out.row.cell 2).trans rfl; have y2 : w5.frozen? ⟨w.heap.size + 1, 2, none⟩ = false := HM5.out.row.frozen 2; have x3 : w5.cell? ⟨w.heap.size + 1, 3, none⟩ = some (.slice A3 n3 c3) := (HM5.out.row.cell 3).trans rfl; have y3 : w5.frozen? ⟨w.heap.size + 1, 3, none⟩ = false := HM5.out.row.frozen 3
        have x6 := HM5.out.ps.c1.1
        have y6 := HM5.out.ps.c1.2
        have l5 := HM5.out.row.lt
        have hfl := fun W => Te.tokField (Te.hdT r).1 ⟨(Te.hdT r).2.toArray⟩ W
        generalize (Te.hdT r).1 = kk at *
        generalize (Te.hdT r).2 = kt at *
        by_cases hk4 : kk = 4
        · have HQ : Hid (res = .ok (.mk 1 t 0 (acc ++ [.mk k s n ks]), r.drop 1)) := Lib.hid (by rw [HE.out]; exact Te.kidsA_end HR.out (by rw [e4]; exact decide_eq_true hk4))
          subst hk4
          clear e4 e5
          go_wp2_with fail
          refine bodyPost_ret ((results_cell_tmp rfl _ _ _).trans (by simp [go_sem, *]; rfl)) rfl ?_
          refine ⟨1, t, 0, acc ++ [.mk k s n ks], .slice A3 n3 c3, 0, rfl, ?_, .inl ⟨rfl, r.drop 1, HQ.out, ?_, ?_⟩⟩
          · exact ((((HM5.out.kp.setCell ⟨b, 1, none⟩ (.inr rfl) _).setCell _ (.inl (Nat.le_refl _)) _).setCell _ (.inl (Nat.le_refl _)) _).setCell _ (.inl (Nat.le_refl _)) _).setCell _ (.inl (Nat.le_refl _)) _
          · exact (HM5.out.ps.setC c).far ((((Below.refl _ _).setCell (by show b + 1 ≤ w.heap.size; omega) _).setCell (by show b + 1 ≤ w.heap.size; omega) _).setCell (by show b + 1 ≤ w.heap.size; omega) _ |>.setCell (by show b + 1 ≤ w.heap.size; omega) _)
          · have k9 : Kp (fun i => i < w.heap.size + 2) w5 (((((w5.setCell ⟨b, 1, none⟩ (.int .i64 c)).setCell ⟨w.heap.size, 0, none⟩ (.int .i64 1)).setCell ⟨w.heap.size, 1, none⟩ (.string ⟨t.toArray⟩)).setCell ⟨w.heap.size, 2, none⟩ (.int .i64 0)).setCell ⟨w.heap.size, 3, none⟩ (.slice A3 n3 c3)) :=
              (((((Kp.refl (fun i => i < w.heap.size + 2) w5).setCell ⟨b, 1, none⟩ (.inr (by show b < _; omega)) _).setCell ⟨w.heap.size, 0, none⟩ (.inr (by show w.heap.size < _; omega)) _).setCell ⟨w.heap.size, 1, none⟩ (.inr (by show w.heap.size < _; omega)) _).setCell ⟨w.heap.size, 2, none⟩ (.inr (by show w.heap.size < _; omega)) _).setCell ⟨w.heap.size, 3, none⟩ (.inr (by show w.heap.size < _; omega)) _
            exact (((HM5.out.own.at_ 1 t 0).kp k9 fun i _ hi e => by have hi : w.heap.size + 2 ≤ i := hi; have e : i < w.heap.size + 2 := e; omega)).mono fun i _ hi => by have hi : w.heap.size + 2 ≤ i := hi; show w.heap.size ≤ i; omega
        · by_cases hk5 : kk = 5
          · have HQ : Hid (res = Te.kidsA d t (acc ++ [.mk k s n ks]) (r.drop 1)) := Lib.hid (by rw [HE.out]; exact Te.kidsA_more HR.out (by rw [e4]; exact decide_eq_false hk4) (by rw [e5]; exact decide_eq_true hk5))
            have HLN : Hid (1 ≤ r.length) := Lib.hid (by
              have h5 : Te.hd 5 r = true := by rw [e5]; exact decide_eq_true hk5
              have := Te.hd_len h5; omega)
            subst hk5
            clear e4 e5
            go_wp2_with fail
            go_roundw
            case rel => exact Lib.hid ⟨acc ++ [.mk k s n ks], r.drop 1, _, HM5.out, HQ.out, (HS.out.suffix (Te.expr_suffix d l2 _ _ HR.out)).drop, by have := HLN.out; simp; omega, hz3⟩
            case measure =>
              have h1 := HM5.out.ps.left
              have h2 := HLM.out
              simp at h1
              omega
          · have HQ : Hid (res = .error 8) := Lib.hid (by rw [HE.out]; exact Te.kidsA_no HR.out (by rw [e4]; exact decide_eq_false hk4) (by rw [e5]; exact decide_eq_false hk5))
            have b4 : (kk == 4) = false := by simpa using hk4
            have b5 : (kk == 5) = false := by simpa using hk5
            clear e4 e5
            go_wp2_with fail
            refine bodyPost_ret ((results_cell_tmp rfl _ _ _).trans (by simp [go_sem, *]; rfl)) rfl ?_
            refine ⟨0, [], 0, [], .slice none 0 0, 8, rfl, ?_, .inr ⟨by decide, HQ.out, rfl, rfl, rfl, rfl, rfl⟩⟩
            exact (((HM5.out.kp.setCell _ (.inl (Nat.le_refl _)) _).setCell _ (.inl (Nat.le_refl _)) _).setCell _ (.inl (Nat.le_refl _)) _).setCell _ (.inl (Nat.le_refl _)) _
      · have HQ : Hid (res = .error er) := Lib.hid (by rw [HE.out]; exact Te.kidsA_bad hr)
        have HK2 : Hid (Kp (fun i => i = b) w w2) := Lib.hid (HM.out.kp.trans hk fun _ _ e => e)
        have ho2 := Te.beside HM.out.out hk (by omega)
        have p0 : w2.cell? ⟨w.heap.size, 0, none⟩ = some (.int .i64 0) := (ho2.cell 0).trans rfl; have q0 : w2.frozen? ⟨w.heap.size, 0, none⟩ = false := ho2.frozen 0; have p1 : w2.cell? ⟨w.heap.size, 1, none⟩ = some (.string ⟨#[]⟩) := (ho2.cell 1).trans rfl; have q1 : w2.frozen? ⟨w.heap.size, 1, none⟩ = false := ho2.frozen 1; have p2 : w2.cell? ⟨w.heap.size, 2, none⟩ = some (.int .i64 0) := (ho2.cell 2).trans rfl; have q2 : w2.frozen? ⟨w.heap.size, 2, none⟩ = false := ho2.frozen 2; have p3 : w2.cell? ⟨w.heap.size, 3, none⟩ = some (.slice none 0 0) := (ho2.cell 3).trans rfl; have q3 : w2.frozen? ⟨w.heap.size, 3, none⟩ = false := ho2.frozen 3
        have l2 := ho2.lt
        have en : (er == 0) = false := by simpa using hne
        have HN := Lib.hid hne
        clear hr hk ho2
        go_wp2_with fail
        refine bodyPost_ret ((results_cell_tmp rfl _ _ _).trans (by simp [go_sem, *]; rfl)) rfl ?_
        refine ⟨0, [], 0, [], .slice none 0 0, er, rfl, ?_, .inr ⟨HN.out, HQ.out, rfl, rfl, rfl, rfl, rfl⟩⟩
        exact (((((HK2.out.setCell _ (.inl (Nat.le_refl _)) _).setCell _ (.inl (Nat.le_refl _)) _).setCell _ (.inl (Nat.le_refl _)) _).setCell _ (.inl (Nat.le_refl _)) _).alloc _)
end Go.Proofs.YtojmcndiooiehaaGreatDoor
