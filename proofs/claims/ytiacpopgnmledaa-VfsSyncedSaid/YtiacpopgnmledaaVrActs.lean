/-
  CONTRACTS: the document's own files as an object: Create and Remove.
-/
import Derived.Test.YtiacpopgnmledaaVrDo
import Derived.Test.YtiacpopgnmledaaVrTell
namespace Go.Proofs.Ytiacpopgnmledaa
open Go.RowKit
open Me

namespace Vf
theorem At.kp {w w' : World} {G O : Nat → Prop} {fs : Nat} {lr : Option Nat} {S : Sv} {nv wv lv : Value} {ys : List Value} (h : At w G fs lr S nv wv lv ys) (k : Kp O w w') (hO : ∀ b, O b → ¬ G b ∧ b ≠ fs ∧ lr ≠ some b) : At w' G fs lr S nv wv lv ys := by
  have hk : ∀ b, b < w.heap.size → G b → w'.heap[b]? = w.heap[b]? := fun b hb hg => k.block b hb (fun o => (hO b o).1 hg)
  refine ⟨(k.block fs h.fsLt (fun o => (hO fs o).2.1 rfl)).trans h.heap, h.now.keep k.size hk, h.was.keep k.size hk, owns_keep h.own (fun g hg => k.block g (h.own.lt g hg).2 (fun o => (hO g o).2.2 (h.row ▸ hg))), h.acts.mono fun x cs hx => hx.keep k.size hk, h.row, h.gfs, h.glr, fun b hb => Nat.lt_of_lt_of_le (h.lt b hb) k.size⟩
theorem At.below {w w' : World} {G : Nat → Prop} {fs : Nat} {lr : Option Nat} {S : Sv} {nv wv lv : Value} {ys : List Value} (h : At w G fs lr S nv wv lv ys) (b : Below w.heap.size w w') : At w' G fs lr S nv wv lv ys :=
  h.kp (O := fun _ => False) (Kp.of_below b) (fun _ o => o.elim)
theorem At.drew {w : World} {G : Nat → Prop} {fs : Nat} {lr : Option Nat} {S : Sv} {nv wv lv : Value} {ys : List Value} (h : At w G fs lr S nv wv lv ys) : At w.drew G fs lr S nv wv lv ys :=
  h.kp (O := fun _ => False) (Kp.refl _ _).drew (fun _ o => o.elim)
def Sv.act (S : Sv) (a : Ac) : Sv := { S with now := does S.now a, l := S.l ++ [a] }
/-- What an act leaves: a number, and the object as it then is. -/
def Next (w : World) (G : Nat → Prop) (fs : Nat) (lr : Option Nat) (R : Sv × Int) (e : Ending) (w' : World) : Prop :=
  e = .returned (.int .i64 R.2) ∧ ∃ G' lr' nv' wv' lv' ys', At w' G' fs lr' R.1 nv' wv' lv' ys' ∧ Kp (fun b => b = fs ∨ lr = some b) w w' ∧
    (∀ b, G' b → G b ∨ w.heap.size ≤ b) ∧ (∀ g, lr' = some g → lr = some g ∨ w.heap.size ≤ g)
theorem Next.no {w w' : World} {G : Nat → Prop} {fs : Nat} {lr : Option Nat} {S : Sv} {nv wv lv : Value} {ys : List Value} (h : At w' G fs lr S nv wv lv ys) (b : Below w.heap.size w w') {R : Sv × Int} {i : Int} (hR : R = (S, i)) : Next w G fs lr R (.returned (.int .i64 i)) w' := by
  subst hR
  exact ⟨rfl, G, lr, nv, wv, lv, ys, h, Kp.of_below b, fun _ hb => .inl hb, fun _ hg => .inl hg⟩
theorem Next.done {w w1 w2 : World} {G Gp : Nat → Prop} {fs : Nat} {lr : Option Nat} {S : Sv} {a : Ac} {e : Ending} (b : Below w.heap.size w w1) (hGp : ∀ i, Gp i → w.heap.size ≤ i) (hd : Done w1 G Gp fs lr S a e w2) {R : Sv × Int} (hR : R = (S.act a, 0)) : Next w G fs lr R e w2 := by
  subst hR
  obtain ⟨rfl, G', lr', nv', wv', lv', ys', h1, h2, h3, h4⟩ := hd
  refine ⟨rfl, G', lr', nv', wv', lv', ys', h1, (Kp.of_below b).trans h2 (fun _ _ o => o), fun i hi => ?_, fun g hg => ?_⟩
  · rcases h3 i hi with h | h | h
    · exact .inl h
    · exact .inr (hGp i h)
    · exact .inr (Nat.le_trans b.size h)
  · rcases h4 g hg with h | h
    · exact .inl h
    · exact .inr (Nat.le_trans b.size h)
def create (S : Sv) (n b : List UInt8) : Sv × Int := if is n = false then (S, 1) else if 0 ≤ ix S.now n then (S, 6) else if S.room - used S.now < b.length then (S, 4) else (S.act ⟨1, n, 0, b⟩, 0)
def remove (S : Sv) (n : List UInt8) : Sv × Int := if is n = false then (S, 1) else if ix S.now n < 0 then (S, 5) else (S.act ⟨3, n, 0, []⟩, 0)
theorem used_mem {l : List Fl} {f : Fl} (h : f ∈ l) : f.b.length ≤ used l := by
  unfold used
  induction l with
  | nil => cases h
  | cons x r ih =>
    rw [List.map_cons, List.sum_cons]
    rcases List.mem_cons.1 h with rfl | h
    · omega
    · have := ih h; omega
end Vf

theorem ret_i (a : Int) : Ending.returned (.int .i64 a) = .returned (.int .i64 a) := rfl

set_option maxHeartbeats 1600000 in
theorem remove_any {w : World} {G : Nat → Prop} {fs : Nat} {lr : Option Nat} {S : Vf.Sv} {nv wv lv : Value} {ys : List Value} (h : Vf.At w G fs lr S nv wv lv ys) (n : List UInt8) (hl : S.now.length ≤ 1048576) (hll : S.l.length ≤ 1048576) (hu : Vf.used S.now ≤ 4294967296) :
    Calls Try.prog 25 #[.pointer (some ⟨fs, 0, none⟩), .string ⟨n.toArray⟩] w (Vf.Next w G fs lr (Vf.remove S n)) := by
  obtain ⟨c0, c1, c2, c3, hf⟩ := h.cells
  have HFD := Lib.hid (find_any S.now n nv G w h.now hl)
  have HIS := Lib.hid (is_any n w)
  have HD : Hid (Calls Try.prog 51 #[.pointer (some ⟨fs, 0, none⟩), .agg #[.int .i64 3, .string ⟨n.toArray⟩, .int .i64 0, .slice none 0 0]] w (Vf.Done w G (fun _ => False) fs lr S ⟨3, n, 0, []⟩)) :=
    Lib.hid (do_any (Gp := fun _ => False) h ⟨3, n, 0, []⟩ ⟨none, 0, rfl, Nat.le_refl _, Nat.zero_le _, Rd.none_ _ _ _⟩ (fun _ h => h.elim) hl hll (Lib.hid (fun h => by cases h)) (Lib.hid fun f hf => Nat.le_trans (Vf.used_mem hf) hu) (Nat.zero_le _))
  have HS : Hid (Vf.remove S n = if Vf.is n = false then (S, 1) else if Vf.ix S.now n < 0 then (S, 5) else (S.act ⟨3, n, 0, []⟩, 0)) := Lib.hid rfl
  have H := Lib.hid h
  obtain ⟨A0, c00, xs0, hnv, _⟩ := h.now
  subst hnv
  clear hf h
  obtain ⟨i1, i2⟩ := Vf.ix_bd S.now n
  cases hi : Vf.is n
  · rw [hi] at HIS HS
    have HR : Hid (Vf.remove S n = (S, 1)) := Lib.hid (by rw [HS.out]; rfl)
    clear HS HD
    go_enter Try.func25, Try.ntmps25
    go_wp2_with (first | (go_at_call 50; ((with_reducible refine (HFD.out).mono ?_); rintro e w' ⟨rfl, rfl⟩)) | (go_at_call 49; ((with_reducible refine (HIS.out).mono ?_); rintro e w' ⟨rfl, rfl⟩)))
    go_ret
    exact Vf.Next.no H.out (Below.refl _ _) HR.out
  · rw [hi] at HIS HS
    by_cases hx : Vf.ix S.now n < 0
    · have HR : Hid (Vf.remove S n = (S, 5)) := Lib.hid (by rw [HS.out]; simp [hx])
      clear HS HD
      generalize Vf.ix S.now n = i at *
      go_enter Try.func25, Try.ntmps25
      go_wp2_with (first | (go_at_call 50; ((with_reducible refine (HFD.out).mono ?_); rintro e w' ⟨rfl, rfl⟩)) | (go_at_call 49; ((with_reducible refine (HIS.out).mono ?_); rintro e w' ⟨rfl, rfl⟩)))
      go_ret
      exact Vf.Next.no H.out (Below.refl _ _) HR.out
    · have HR : Hid (Vf.remove S n = (S.act ⟨3, n, 0, []⟩, 0)) := Lib.hid (by rw [HS.out]; simp [hx])
      clear HS
      generalize Vf.ix S.now n = i at *
      go_enter Try.func25, Try.ntmps25
      go_wp2_with (first | (go_at_call 50; ((with_reducible refine (HFD.out).mono ?_); rintro e w' ⟨rfl, rfl⟩)) | (go_at_call 49; ((with_reducible refine (HIS.out).mono ?_); rintro e w' ⟨rfl, rfl⟩)) | (go_at_call 51; (with_reducible refine (HD.out).mono ?_); rintro e w' hd; obtain rfl := hd.1; have HDN := Lib.hid hd; clear hd))
      go_ret
      exact Vf.Next.done (Below.refl _ _) (fun _ h => h.elim) HDN.out HR.out

end Go.Proofs.Ytiacpopgnmledaa
