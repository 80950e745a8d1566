/-
  PkKn: CHAPTER 12, LAWS: known: what the program finds for one expression, evaluated by fuel; then the law's own walk.
  PkPro: CONTRACTS AND LAWS: chapter 12: the document's Find, Is; PikePrograms; programs that come in, as data.
-/
import Derived.Test.YtelbabgkpflckaaJ19
import Derived.Test.YtelbabgkpflckaaJ26
import Derived.Test.YtelbabgkpflckaaJ7
import Derived.Test.YtelbabgkpflckaaJ8
import Derived.Deep.Slices
import Derived.ProofKit
import Derived.OpenShut
import Derived.ChangeOld
import Derived.Lib.SmallJoins
import Derived.ChangeArms

set_option linter.unusedSimpArgs false
set_option linter.unusedVariables false
namespace Go.Proofs.Ytelbabgkpflckaa
open Go.RowKit Go.Sort
open Me
open Pk

namespace Pk
open Rx (In)
/-- One path behind the other, by fuel. -/
def dfsF (L : List In) (t : List UInt8) : Nat → Seen → List Ent → Option (Option Row)
  | 0, _, _ => none
  | _ + 1, _, [] => some none
  | n + 1, S, (h, k, r) :: l => match fetch L h with
    | none => dfsF L t n S l
    | some x => if (S h.toNat k || decide (t.length < k)) = true then dfsF L t n S l else match act t k x h r with
      | .dead => dfsF L t n (see S h.toNat k) l
      | .hit => some (some r)
      | .next => dfsF L t n (see S h.toNat k) ((h + 1, k + 1, r) :: l)
      | .go m => dfsF L t n (see S h.toNat k) (m.map (fun e => (e.1, k, e.2)) ++ l)
theorem dfsF_ok {L : List In} {t : List UInt8} : ∀ (n : Nat) (S : Seen) (l : List Ent) (x : Option Row), dfsF L t n S l = some x → (dfs L t S l).1 = x
  | 0, _, _, _, h => by cases h
  | n + 1, S, [], x, h => by
    rw [dfs_nil]
    exact Option.some.inj h
  | n + 1, S, (hd, k, r) :: l, x, h => by
    unfold dfsF at h
    cases hf : fetch L hd with
    | none =>
      rw [hf] at h
      rw [dfs_out hf]
      exact dfsF_ok n S l x h
    | some y =>
      rw [hf] at h
      by_cases hs : (S hd.toNat k || decide (t.length < k)) = true
      · have h : dfsF L t n S l = some x := by simpa [hs] using h
        rw [dfs_seen (by simpa using hs)]
        exact dfsF_ok n S l x h
      · have hs2 : S hd.toNat k = false ∧ k ≤ t.length := by simpa using hs
        rw [dfs_act hf hs2.1 hs2.2]
        simp only [hs, if_false] at h
        cases ha : act t k y hd r with
        | dead => rw [ha] at h; exact dfsF_ok n _ _ x h
        | hit => rw [ha] at h; exact Option.some.inj h
        | next => rw [ha] at h; exact dfsF_ok n _ _ x h
        | go m => rw [ha] at h; exact dfsF_ok n _ _ x h
def firstF (L : List In) (t : List UInt8) (w f : Nat) : Nat → Nat → Option (Option Row)
  | _, 0 => some none
  | k, n + 1 => match dfsF L t f nothing [(0, k, blank w)] with
    | none => none
    | some none => firstF L t w f (k + 1) n
    | some (some r) => some (some r)
theorem firstF_ok {L : List In} {t : List UInt8} {w f : Nat} : ∀ (n k : Nat) (x : Option Row), firstF L t w f k n = some x → first L t w k n = x
  | 0, _, x, h => Option.some.inj h
  | n + 1, k, x, h => by
    unfold firstF at h
    unfold first walk
    cases hd : dfsF L t f nothing [(0, k, blank w)] with
    | none => rw [hd] at h; cases h
    | some y =>
      rw [dfsF_ok f _ _ y hd]
      rw [hd] at h
      cases y with
      | none => exact firstF_ok n (k + 1) x h
      | some r => exact Option.some.inj h
theorem findP_fuel {g : Nat} {L : List In} {t : List UInt8} (f : Nat) {x : Option Row} (hg : g ≤ 1024) (h : firstF L t (2 * g + 2) f 0 (t.length + 1) = some x) : findP (g : Int) L t 0 = x := by
  unfold findP
  rw [if_neg (by omega)]
  have := firstF_ok _ _ _ h
  simpa using this
/-- The expression of known. -/
def kx : List UInt8 := [40, 97, 124, 97, 98, 41, 40, 99, 124, 98, 99, 100, 41]
theorem kx_of : Rc.ofP kx = (2, (Rc.ofP kx).2.1, true) := by decide +kernel
theorem kx_found : findP 2 (Rc.ofP kx).2.1 [97, 98, 99, 100] 0 = some [0, 4, 0, 1, 1, 4] := findP_fuel (g := 2) 400 (by omega) (by decide +kernel)
theorem kx_sm : Rc.Sm kx := by unfold Rc.Sm kx; decide
end Pk

set_option maxRecDepth 100000 in
set_option maxHeartbeats 8000000 in
theorem known12_any (W : World) : Calls Try.prog 8 #[] W fun e W' => e = .returned (.bool true) ∧ Below W.heap.size W W' := by
  have HO : Hid (Calls Try.prog 7 #[.string ⟨#[40, 97, 124, 97, 98, 41, 40, 99, 124, 98, 99, 100, 41]⟩] W fun e W' => ∃ (A : Option Addr) (c : Nat), e = .returned (.tuple #[.agg #[.int .i64 2, .slice A (Rc.ofP kx).2.1.length c], .bool true]) ∧ Below W.heap.size W W' ∧ Rd W' (fun _ => True) A (icells (Rc.ofP kx).2.1) ∧ (Rc.ofP kx).2.1.length ≤ 1024) := Lib.hid (by
    refine (of_any set_sm (s := kx) kx_sm (by decide)).mono ?_
    rintro e W' ⟨g, L, A, c, ok, rfl, hb, hr, hf, hq⟩
    have h := (hq kx_sm).symm.trans kx_of
    injection h with h1 h2
    injection h2 with h2 h3
    subst h1 h2 h3
    exact ⟨A, c, rfl, hb, hr.mono fun _ _ _ => trivial, hf.len⟩)
  obtain ⟨L, hL⟩ : ∃ L, L = (Rc.ofP kx).2.1 := ⟨_, rfl⟩
  have HF := Lib.hid kx_found
  rw [← hL] at HO HF
  clear hL
  go_enter Try.func8, Try.ntmps8
  go_wp2_with first
    | (go_at_call 7; go_must (refine HO.out.mono ?_; rintro e w1 ⟨A, c, rfl, hb1, hr1, hl1⟩; have HB1 := Lib.hid hb1; have hsz1 := hb1.size; have HB2 : Hid (Below W.heap.size W (w1.alloc (.cells #[.int .i64 2, .slice A L.length c] 24))) := Lib.hid (hb1.alloc hsz1 _); have HFD : Hid (Calls Try.prog 9 #[.agg #[.int .i64 2, .slice A L.length c], .string ⟨#[97, 98, 99, 100]⟩, .int .i64 0] (w1.alloc (.cells #[.int .i64 2, .slice A L.length c] 24)) fun e W' => ∃ A2 c2, e = .returned (.tuple #[.slice A2 6 c2, .bool true]) ∧ Below (w1.alloc (.cells #[.int .i64 2, .slice A L.length c] 24)).heap.size (w1.alloc (.cells #[.int .i64 2, .slice A L.length c] 24)) W' ∧ Rd W' (fun _ => True) A2 (iv [0, 4, 0, 1, 1, 4])) := Lib.hid (by { refine (find_any (G := 2) (t := [97, 98, 99, 100]) (fr := 0) (hr1.below ((Below.refl _ _).alloc (Nat.le_refl _) _)) (by omega) (by decide)).mono ?_; rintro e W' ⟨v, bb, rfl, hb, hm⟩; rw [HF.out] at hm; obtain ⟨hm1, rfl, _⟩ := hm; obtain ⟨A2, c2, rfl⟩ := own_form hm1; exact ⟨A2, c2, rfl, hb, (Rd.own hm1).mono fun _ _ _ => trivial⟩ }); clear hb1 hr1))
    | (go_at_call 9; go_must (refine HFD.out.mono ?_; rintro e w2 ⟨A2, c2, rfl, hb2, hr2⟩; have HB3 := Lib.hid (HB2.out.trans (hb2.mono HB2.out.size)); have HR2 := Lib.hid hr2; have HNM : Hid (Calls Try.prog 12 #[.slice A2 6 c2, .slice (some ⟨w2.heap.size, 0, none⟩) 6 6] (w2.alloc (.cells #[.int .i64 0, .int .i64 4, .int .i64 0, .int .i64 1, .int .i64 1, .int .i64 4] 3)) fun e W' => e = .returned (.bool true) ∧ Below (w2.alloc (.cells #[.int .i64 0, .int .i64 4, .int .i64 0, .int .i64 1, .int .i64 1, .int .i64 4] 3)).heap.size (w2.alloc (.cells #[.int .i64 0, .int .i64 4, .int .i64 0, .int .i64 1, .int .i64 1, .int .i64 4] 3)) W') := Lib.hid (by { refine (numbers_any (l1 := [0, 4, 0, 1, 1, 4]) (l2 := [0, 4, 0, 1, 1, 4]) (hr2.below ((Below.refl _ _).alloc (Nat.le_refl _) _)) (Rd.fresh w2 (iv [0, 4, 0, 1, 1, 4]) 3 _ rfl) (by decide)).mono ?_; rintro e W' ⟨rfl, hb⟩; exact ⟨rfl, hb⟩ }); clear hb2 hr2))
    | (go_at_call 12; go_must (refine HNM.out.mono ?_; rintro e w3 ⟨rfl, hb3⟩; have HB4 := Lib.hid (((HB3.out.alloc HB3.out.size _).trans (hb3.mono (by have := HB3.out.size; simp; omega)))); clear hb3))
  go_ret
  exact ⟨rfl, HB4.out⟩

end Go.Proofs.Ytelbabgkpflckaa

namespace Go.Proofs.Ytelbabgkpflckaa
open Go.RowKit Go.Sort
open Me
open Pk

namespace Pk
/-- What is found (the document's words). -/
def findR (G : Int) (L : List Rx.In) (t : List UInt8) (fr : Int) : Option Row :=
  if fr < 0 ∨ (t.length : Int) < fr ∨ G < 0 ∨ 1024 < G then none else first L t (2 * G.toNat + 2) fr.toNat (t.length + 1 - fr.toNat)
end Pk

set_option maxRecDepth 100000 in
set_option maxHeartbeats 8000000 in
theorem refFind_no {W : World} {A : Option Addr} {cp n : Nat} {t : List UInt8} {G fr : Int} (h : fr < 0 ∨ (t.length : Int) < fr ∨ G < 0 ∨ 1024 < G) :
    Calls Try.prog 10 #[.agg #[.int .i64 G, .slice A n cp], .string ⟨t.toArray⟩, .int .i64 fr] W (Pk.Walkd W none) := by
  have hB : Hid (Below W.heap.size W (W.alloc (.cells #[.int .i64 G, .slice A n cp] 34))) := Lib.hid ((Below.refl _ _).alloc (Nat.le_refl _) _)
  by_cases h1 : fr < 0
  · clear h
    go_enter Try.func10, Try.ntmps10
    go_wp2_with fail
    ((try simp only [Exit.inBlock, Exit.then]); refine bodyPost_ret (results_tmp2 rfl _ _ _) rfl ?_)
    exact ⟨_, _, rfl, hB.out, rfl, rfl⟩
  by_cases h2 : (t.length : Int) < fr
  · clear h
    go_enter Try.func10, Try.ntmps10
    go_wp2_with fail
    ((try simp only [Exit.inBlock, Exit.then]); refine bodyPost_ret (results_tmp2 rfl _ _ _) rfl ?_)
    exact ⟨_, _, rfl, hB.out, rfl, rfl⟩
  by_cases h3 : G < 0
  · clear h
    go_enter Try.func10, Try.ntmps10
    go_wp2_with fail
    ((try simp only [Exit.inBlock, Exit.then]); refine bodyPost_ret (results_tmp2 rfl _ _ _) rfl ?_)
    exact ⟨_, _, rfl, hB.out, rfl, rfl⟩
  · have h4 : 1024 < G := by omega
    clear h
    go_enter Try.func10, Try.ntmps10
    go_wp2_with fail
    ((try simp only [Exit.inBlock, Exit.then]); refine bodyPost_ret (results_tmp2 rfl _ _ _) rfl ?_)
    exact ⟨_, _, rfl, hB.out, rfl, rfl⟩

set_option maxRecDepth 100000 in
set_option maxHeartbeats 8000000 in
theorem refFind_yes {W : World} {A : Option Addr} {cp : Nat} {L : List Rx.In} {t : List UInt8} {G fr : Nat} (hp : Rd W (fun _ => True) A (icells L)) (hP : ∀ x ∈ L, x.p.length ≤ 1048576) (hL : L.length ≤ 4096) (ht : t.length ≤ 100000) (hG : G ≤ 1024) (hfr : fr ≤ t.length) :
    Calls Try.prog 10 #[.agg #[.int .i64 (G : Int), .slice A L.length cp], .string ⟨t.toArray⟩, .int .i64 (fr : Int)] W (Pk.Walkd W (Pk.first L t (2 * G + 2) fr (t.length + 1 - fr))) := by
  have h1 : ¬ (fr : Int) < 0 := by omega
  have h2 : ¬ (t.length : Int) < (fr : Int) := by omega
  have h3 : ¬ (G : Int) < 0 := by omega
  have h4 : ¬ (1024 : Int) < (G : Int) := by omega
  have htI : (t.length : Int) ≤ 100000 := by omega
  obtain ⟨w, hw⟩ : ∃ w, w = 2 * G + 2 := ⟨_, rfl⟩
  rw [← hw]
  obtain ⟨R, hR⟩ : ∃ R, Pk.first L t w fr (t.length + 1 - fr) = R := ⟨_, rfl⟩
  rw [hR]
  have hb0 : Below W.heap.size W (W.alloc (.cells #[.int .i64 (G : Int), .slice A L.length cp] 34)) := (Below.refl _ _).alloc (Nat.le_refl _) _
  have HB0 := Lib.hid hb0
  have HWK : Hid (∀ (W2 : World) (k : Nat), Below (W.heap.size + 1) (W.alloc (.cells #[.int .i64 (G : Int), .slice A L.length cp] 34)) W2 → k ≤ t.length → Calls Try.prog 27 #[.agg #[.int .i64 (G : Int), .slice A L.length cp], .string ⟨t.toArray⟩, .int .i64 (k : Int)] W2 (Pk.Walkd W2 (Pk.walk L t w k))) := Lib.hid fun W2 k hb hk => by
    rw [hw]
    refine refWalk_any ?_ hP hL ht hG hk
    have h5 := hb0.trans (hb.mono (Nat.le_succ _))
    exact hp.below h5
  have hc0 : (W.alloc (.cells #[.int .i64 (G : Int), .slice A L.length cp] 34)).cell? ⟨W.heap.size, 0, none⟩ = some (.int .i64 (G : Int)) := ((RowAt.new W _ _).cell 0).trans rfl
  have hc1 : (W.alloc (.cells #[.int .i64 (G : Int), .slice A L.length cp] 34)).cell? ⟨W.heap.size, 1, none⟩ = some (.slice A L.length cp) := ((RowAt.new W _ _).cell 1).trans rfl
  have hsz : (W.alloc (.cells #[.int .i64 (G : Int), .slice A L.length cp] 34)).heap.size = W.heap.size + 1 := by simp
  have HSZ := Lib.hid hsz
  have H0 : Hid (Pk.first L t w fr (t.length + 1 - fr) = R) := Lib.hid hR
  obtain ⟨pb, hpb⟩ : ∃ pb, pb = W.heap.size := ⟨_, rfl⟩
  have HPB := Lib.hid hpb
  clear hb0 hp hP hR hw
  go_enter Try.func10, Try.ntmps10
  go_wp2_with fail
  rw [← hpb] at hc0 hc1 hsz ⊢
  have HBB : Hid (Below (pb + 1) (W.alloc (.cells #[.int .i64 (G : Int), .slice A L.length cp] 34)) (W.alloc (.cells #[.int .i64 (G : Int), .slice A L.length cp] 34))) := Lib.hid (Below.refl _ _)
  rw [← hpb] at HWK
  clear hpb
  generalize W.alloc (.cells #[.int .i64 (G : Int), .slice A L.length cp] 34) = wb at *
  go_loopw [8, 9, 10] (fun x _ _ wr => ∃ k : Nat, x = .int .i64 (k : Int) ∧ k ≤ t.length + 1 ∧ Hid (Below (pb + 1) wb wr) ∧ Hid (Pk.first L t w k (t.length + 1 - k) = R)) (fun x _ _ _ => t.length + 1 - (intOf x).toNat)
  case atStart => exact ⟨fr, rfl, by omega, HBB, H0⟩
  case round =>
    clear HBB H0
    obtain ⟨k, rfl, hk, HB, HD⟩ := hrel
    have e0 : wr.cell? ⟨pb, 0, none⟩ = some (.int .i64 (G : Int)) := (HB.out.cell (p := ⟨pb, 0, none⟩) (by show pb < pb + 1; omega)).trans hc0
    have e1 : wr.cell? ⟨pb, 1, none⟩ = some (.slice A L.length cp) := (HB.out.cell (p := ⟨pb, 1, none⟩) (by show pb < pb + 1; omega)).trans hc1
    have hsr := HB.out.size
    by_cases hkl : k ≤ t.length
    · have hkI : (k : Int) ≤ (t.length : Int) := by omega
      have hn : t.length + 1 - k = (t.length + 1 - (k + 1)) + 1 := by omega
      have HD2 : Hid ((Pk.walk L t w k).or (Pk.first L t w (k + 1) (t.length + 1 - (k + 1))) = R) := Lib.hid (by have h := HD.out; rw [hn] at h; exact h)
      obtain ⟨x, hx⟩ : ∃ x, Pk.walk L t w k = x := ⟨_, rfl⟩
      have HC := Lib.hid (HWK.out wr k HB.out hkl)
      rw [hx] at HD2 HC
      clear HD hn hx
      cases x with
      | none =>
        have HCN : Hid (Calls Try.prog 27 #[.agg #[.int .i64 (G : Int), .slice A L.length cp], .string ⟨t.toArray⟩, .int .i64 (k : Int)] wr fun e W' => e = .returned (.tuple #[.slice none 0 0, .bool false]) ∧ Below wr.heap.size wr W') := Lib.hid (HC.out.mono fun e W' h => by
          obtain ⟨v, b, rfl, hb, rfl, rfl⟩ := h
          exact ⟨rfl, hb⟩)
        clear HC
        go_wp2_with (go_at_call 27; go_must (refine HCN.out.mono ?_; rintro e w2 ⟨rfl, hb2⟩; have HB2 := Lib.hid hb2; clear hb2))
        go_roundw
        case rel => exact ⟨k + 1, by go_num, by omega, Lib.hid (HB.out.trans (HB2.out.mono (by omega))), Lib.hid HD2.out⟩
        case measure => simp [intOf]; omega
      | some r =>
        have HRR : Hid (R = some r) := Lib.hid HD2.out.symm
        have HCS : Hid (Calls Try.prog 27 #[.agg #[.int .i64 (G : Int), .slice A L.length cp], .string ⟨t.toArray⟩, .int .i64 (k : Int)] wr fun e W' => ∃ A2 c2, e = .returned (.tuple #[.slice A2 r.length c2, .bool true]) ∧ Below wr.heap.size wr W' ∧ Rd W' (fun i => wr.heap.size ≤ i) A2 (iv r)) := Lib.hid (HC.out.mono fun e W' h => by
          obtain ⟨v, b, rfl, hb, rfl, A2, c2, rfl, hr⟩ := h
          exact ⟨A2, c2, rfl, hb, hr⟩)
        clear HC
        go_wp2_with (go_at_call 27; go_must (refine HCS.out.mono ?_; rintro e w2 ⟨A2, c2, rfl, hb2, hr2⟩; have HB2 := Lib.hid hb2; have HR2 := Lib.hid hr2; clear hb2 hr2))
        ((try simp only [Exit.inBlock, Exit.then]); refine bodyPost_ret (results_tmp2 rfl _ _ _) rfl ?_)
        refine ⟨_, _, rfl, HB0.out.trans ((HB.out.mono (by have := HPB.out; omega)).trans (HB2.out.mono (by have := HPB.out; omega))), ?_⟩
        rw [HRR.out]
        exact ⟨rfl, A2, c2, rfl, HR2.out.mono fun i _ hi => by have := HPB.out; omega⟩
    · have hkI : ¬ (k : Int) ≤ (t.length : Int) := by omega
      obtain rfl : k = t.length + 1 := by omega
      have HRN : Hid (R = none) := Lib.hid (by have h := HD.out; rw [Nat.sub_self] at h; exact h.symm)
      go_wp2_with fail
      ((try simp only [Exit.inBlock, Exit.then]); refine bodyPost_ret (results_tmp2 rfl _ _ _) rfl ?_)
      refine ⟨_, _, rfl, HB0.out.trans (HB.out.mono (by have := HPB.out; omega)), ?_⟩
      rw [HRN.out]
      exact ⟨rfl, rfl⟩

theorem refFind_any {W : World} {A : Option Addr} {cp : Nat} {L : List Rx.In} {t : List UInt8} {G fr : Int} (hp : Rd W (fun _ => True) A (icells L)) (hP : ∀ x ∈ L, x.p.length ≤ 1048576) (hL : L.length ≤ 4096) (ht : t.length ≤ 100000) :
    Calls Try.prog 10 #[.agg #[.int .i64 G, .slice A L.length cp], .string ⟨t.toArray⟩, .int .i64 fr] W (Pk.Walkd W (Pk.findR G L t fr)) := by
  unfold Pk.findR
  split
  · rename_i h
    exact refFind_no h
  · rename_i h
    have h : ¬ fr < 0 ∧ ¬ (t.length : Int) < fr ∧ ¬ G < 0 ∧ ¬ 1024 < G := by simpa using h
    obtain ⟨h1, h2, h3, h4⟩ := h
    have e1 : ((fr.toNat : Nat) : Int) = fr := by omega
    have e2 : ((G.toNat : Nat) : Int) = G := by omega
    have := refFind_yes (W := W) (A := A) (cp := cp) (L := L) (t := t) (G := G.toNat) (fr := fr.toNat) hp hP hL ht (by omega) (by omega)
    rw [e1, e2] at this
    exact this

set_option maxHeartbeats 1000000 in
theorem refIs_any {W : World} {A : Option Addr} {cp : Nat} {L : List Rx.In} {t : List UInt8} {G : Int} (hp : Rd W (fun _ => True) A (icells L)) (hP : ∀ x ∈ L, x.p.length ≤ 1048576) (hL : L.length ≤ 4096) (ht : t.length ≤ 100000) :
    Calls Try.prog 14 #[.agg #[.int .i64 G, .slice A L.length cp], .string ⟨t.toArray⟩] W fun e W' => e = .returned (.bool (Pk.findR G L t 0).isSome) ∧ Below W.heap.size W W' := by
  have hb0 : Below W.heap.size W (W.alloc (.cells #[.int .i64 G, .slice A L.length cp] 34)) := (Below.refl _ _).alloc (Nat.le_refl _) _
  have HF : Hid (Calls Try.prog 10 #[.agg #[.int .i64 G, .slice A L.length cp], .string ⟨t.toArray⟩, .int .i64 0] (W.alloc (.cells #[.int .i64 G, .slice A L.length cp] 34)) fun e W' => ∃ v, e = .returned (.tuple #[v, .bool (Pk.findR G L t 0).isSome]) ∧ Below W.heap.size W W') := Lib.hid (by
    refine (refFind_any (hp.below hb0) hP hL ht).mono ?_
    rintro e W' ⟨v, b, rfl, hb, hm⟩
    refine ⟨v, ?_, hb0.trans (hb.mono hb0.size)⟩
    revert hm
    cases Pk.findR G L t 0 with
    | none => rintro ⟨_, rfl⟩; rfl
    | some r => rintro ⟨rfl, _⟩; rfl)
  generalize (Pk.findR G L t 0).isSome = R at *
  clear hb0
  go_enter Try.func14, Try.ntmps14
  go_wp2_with (go_at_call 10; go_must (refine HF.out.mono ?_; rintro e w1 ⟨v, rfl, hb1⟩; have HB1 := Lib.hid hb1; clear hb1))
  go_ret
  exact ⟨rfl, HB1.out⟩
namespace Pk
theorem act_rows {t : List UInt8} {k : Nat} {x : Rx.In} {h : Int} {r : Row} {m : List (Int × Row)} (e : act t k x h r = .go m) : ∀ y ∈ m, y.2.length = r.length := by
  unfold act at e
  repeat' split at e
  all_goals first | (cases e; done) | (cases e; intro y hy; simp at hy; first | (rcases hy with rfl | rfl <;> rfl) | (subst hy; first | rfl | exact put_len _ _ _))
theorem dfs_rows {L : List Rx.In} {t : List UInt8} {n : Nat} (S : Seen) (l : List Ent) (hl : ∀ e ∈ l, e.2.2.length = n) : ∀ r, (dfs L t S l).1 = some r → r.length = n := by
  induction hn : mu L t S l using Nat.strongRecOn generalizing S l with
  | _ n' ih =>
    subst hn
    match l with
    | [] => rw [dfs_nil]; intro r h; cases h
    | (h, k, r) :: l =>
      have hk : r.length = n := hl _ List.mem_cons_self
      have hl2 : ∀ e ∈ l, e.2.2.length = n := fun e he => hl e (List.mem_cons_of_mem _ he)
      cases hx : fetch L h with
      | none =>
        rw [dfs_out hx]
        exact ih _ (by unfold mu; simp) S l hl2 rfl
      | some x =>
        by_cases hs : S h.toNat k = true ∨ t.length < k
        · rw [dfs_seen hs]
          exact ih _ (by unfold mu; simp) S l hl2 rfl
        · have hs1 : S h.toNat k = false := by cases e : S h.toNat k <;> simp_all
          have hs2 : k ≤ t.length := by omega
          rw [dfs_act hx hs1 hs2]
          have hm := mu_see L t (fetch_some hx).2.1 hs2 hs1
          cases ha : act t k x h r with
          | dead => exact ih _ (by unfold mu; simp only [List.length_cons]; omega) _ _ hl2 rfl
          | hit => intro q hq; cases hq; exact hk
          | next =>
            refine ih _ (by unfold mu; simp only [List.length_cons]; omega) _ _ ?_ rfl
            intro e he
            rcases List.mem_cons.1 he with rfl | he
            · exact hk
            · exact hl2 e he
          | go m =>
            have h2 := act_go_len ha
            refine ih _ (by unfold mu; simp only [List.length_cons, List.length_append, List.length_map]; omega) _ _ ?_ rfl
            intro e he
            rcases List.mem_append.1 he with he | he
            · obtain ⟨y, hy, rfl⟩ := List.mem_map.1 he
              exact (act_rows ha y hy).trans hk
            · exact hl2 e he
theorem first_rows {L : List Rx.In} {t : List UInt8} {w : Nat} : ∀ (n k : Nat) (r : Row), first L t w k n = some r → r.length = w
  | 0, _, _, h => by cases h
  | n + 1, k, r, h => by
    unfold first walk at h
    cases hd : (dfs L t nothing [((0 : Int), k, blank w)]).1 with
    | none => rw [hd] at h; exact first_rows n (k + 1) r h
    | some q =>
      rw [hd] at h
      obtain rfl : q = r := Option.some.inj h
      exact dfs_rows _ _ (fun e he => by rw [List.mem_singleton.1 he]; show (blank w).length = w; unfold blank; simp) _ hd
theorem findP_rows (G : Int) (L : List Rx.In) (t : List UInt8) (fr : Int) : ((findP G L t fr).getD []).length ≤ 1048576 := by
  unfold findP
  split
  · simp
  · rename_i h
    cases hf : first L t (2 * G.toNat + 2) fr.toNat (t.length + 1 - fr.toNat) with
    | none => simp
    | some r =>
      have := first_rows _ _ _ hf
      show r.length ≤ 1048576
      omega
end Pk
theorem find_row {W : World} {A : Option Addr} {cp : Nat} {L : List Rx.In} {t : List UInt8} {G fr : Int} (hp : Rd W (fun _ => True) A (icells L)) (hL : L.length ≤ 4096) (ht : t.length ≤ 1048576) :
    Calls Try.prog 9 #[.agg #[.int .i64 G, .slice A L.length cp], .string ⟨t.toArray⟩, .int .i64 fr] W fun e W' => ∃ A2 c2, e = .returned (.tuple #[.slice A2 ((findP G L t fr).getD []).length c2, .bool (findP G L t fr).isSome]) ∧ Below W.heap.size W W' ∧ Rd W' (fun _ => True) A2 (iv ((findP G L t fr).getD [])) := by
  refine (find_any hp hL ht).mono ?_
  rintro e W' ⟨v, bb, rfl, hb, hm⟩
  cases hr : findP G L t fr with
  | none =>
    rw [hr] at hm
    obtain ⟨rfl, rfl⟩ := hm
    exact ⟨none, 0, rfl, hb, Rd.none_ _ _ _⟩
  | some r =>
    rw [hr] at hm
    obtain ⟨hm1, rfl, _⟩ := hm
    obtain ⟨A2, c2, rfl⟩ := own_form hm1
    exact ⟨A2, c2, rfl, hb, (Rd.own hm1).mono fun _ _ _ => trivial⟩
theorem refFind_row {W : World} {A : Option Addr} {cp : Nat} {L : List Rx.In} {t : List UInt8} {G fr : Int} (hp : Rd W (fun _ => True) A (icells L)) (hP : ∀ x ∈ L, x.p.length ≤ 1048576) (hL : L.length ≤ 4096) (ht : t.length ≤ 100000) :
    Calls Try.prog 10 #[.agg #[.int .i64 G, .slice A L.length cp], .string ⟨t.toArray⟩, .int .i64 fr] W fun e W' => ∃ A2 c2, e = .returned (.tuple #[.slice A2 ((findP G L t fr).getD []).length c2, .bool (findP G L t fr).isSome]) ∧ Below W.heap.size W W' ∧ Rd W' (fun _ => True) A2 (iv ((findP G L t fr).getD [])) := by
  refine (refFind_any hp hP hL ht).mono ?_
  rintro e W' ⟨v, bb, rfl, hb, hm⟩
  rw [show findR G L t fr = findP G L t fr from rfl] at hm
  cases hr : findP G L t fr with
  | none =>
    rw [hr] at hm
    obtain ⟨rfl, rfl⟩ := hm
    exact ⟨none, 0, rfl, hb, Rd.none_ _ _ _⟩
  | some r =>
    rw [hr] at hm
    obtain ⟨rfl, A2, c2, rfl, hq⟩ := hm
    exact ⟨A2, c2, rfl, hb, hq.mono fun _ _ _ => trivial⟩

set_option maxRecDepth 100000
open Pk (icells)
namespace IsOpen
open Go.ChangeShapes Go.WideShapes Go.ChangeAt Go.RowKit Go.Deep Go.Joins
theorem cells_in {w : World} {a : Addr} : ∀ (n off : Nat), (∀ i, i < n → ∃ x : Rx.In, w.cell? (a.add (off + i * 4)) = some (.int .i64 x.op) ∧ w.cell? (a.add (off + i * 4 + 1)) = some (.int .i64 x.x) ∧ w.cell? (a.add (off + i * 4 + 2)) = some (.int .i64 x.y) ∧ w.cell? (a.add (off + i * 4 + 3)) = some (.string ⟨x.p.toArray⟩)) →
    ∃ L : List Rx.In, L.length = n ∧ ∀ j u, (icells L)[j]? = some u → w.cell? (a.add (off + j)) = some u
  | 0, off, _ => ⟨[], rfl, fun j u h => by simp [icells] at h⟩
  | n + 1, off, H => by
    obtain ⟨x, h0, h1, h2, h3⟩ := H 0 (by omega)
    obtain ⟨L, hl, hc⟩ := cells_in n (off + 4) (fun i hi => by
      have := H (i + 1) (by omega)
      rw [show off + (i + 1) * 4 = off + 4 + i * 4 by omega] at this
      exact this)
    refine ⟨x :: L, by simp [hl], fun j u hu => ?_⟩
    have e : icells (x :: L) = [.int .i64 x.op, .int .i64 x.x, .int .i64 x.y, .string ⟨x.p.toArray⟩] ++ icells L := rfl
    rw [e] at hu
    by_cases hj : j < 4
    · rw [List.getElem?_append_left (by simpa using hj)] at hu
      match j, hj with
      | 0, _ => rw [← hu]; simpa using h0
      | 1, _ => rw [← hu]; simpa using h1
      | 2, _ => rw [← hu]; simpa using h2
      | 3, _ => rw [← hu]; simpa using h3
    · rw [List.getElem?_append_right (by simp; omega)] at hu
      have := hc (j - 4) u hu
      rwa [show off + 4 + (j - 4) = off + j by omega] at this
theorem insts {H : Type} {enc : TypeId × Value → H} {w : World} {base : Nat} {spare : Nat → Bool} {held : Bool} {fuel : Nat} {z : Value} {y : DataW H × List MemPlace}
    (h : DataW.trod enc Try.prog w base spare held fuel 22 [z] = some y) :
    ∃ (A : Option Addr) (c : Nat) (L : List Rx.In), z = .slice A (List.length L) c ∧ Rd w (fun _ => True) A (icells L) := by
  rcases open_slice Try.underlying22 h with ⟨hcs, _⟩ | ⟨a, len, cap, m, n, D, Pl, hcs, _, hl, _, hm, _, hi⟩
  · simp at hcs
    exact ⟨none, 0, [], hcs, Rd.none_ _ _ _⟩
  · simp at hcs
    have hC : Try.prog.cellsOf 56 = 4 := by kernel_rfl
    have hb : Try.prog.cellsOf 9 = 1 := by kernel_rfl
    have hn : Try.prog.cellsOf 3 = 1 := by kernel_rfl
    obtain ⟨L, hL, hc⟩ := cells_in (w := w) (a := a) len 0 (fun i hil => by
      have him : i < m := by rw [hm]; split <;> omega
      obtain ⟨cs', h1, h2⟩ := hi i him
      rw [hC] at h1
      obtain ⟨_, hlen, hat⟩ := World.cells?_some h1
      match cs', hlen with
      | [c0, c1, c2, c3], _ =>
        obtain ⟨xs, n', _, _, _, _, hf⟩ := DataW.trod_struct Try.underlying56 h2
        have hx4 : xs.length = 4 := by assumption
        have g0 : DataW.trod enc Try.prog w base spare held n' 3 [c0] = some (xs[0]'(by omega)) := by
          have e : xs[0]? = some (xs[0]'(by omega)) := List.getElem?_eq_getElem (by omega)
          rw [← e, ← hf 0 _ rfl]
          show _ = DataW.trod enc Try.prog w base spare held n' 3 (List.take (Try.prog.cellsOf 3) (List.drop 0 [c0, c1, c2, c3]))
          rw [hn]
          rfl
        have g1 : DataW.trod enc Try.prog w base spare held n' 3 [c1] = some (xs[1]'(by omega)) := by
          have e : xs[1]? = some (xs[1]'(by omega)) := List.getElem?_eq_getElem (by omega)
          rw [← e, ← hf 1 _ rfl]
          show _ = DataW.trod enc Try.prog w base spare held n' 3 (List.take (Try.prog.cellsOf 3) (List.drop 1 [c0, c1, c2, c3]))
          rw [hn]
          rfl
        have g2 : DataW.trod enc Try.prog w base spare held n' 3 [c2] = some (xs[2]'(by omega)) := by
          have e : xs[2]? = some (xs[2]'(by omega)) := List.getElem?_eq_getElem (by omega)
          rw [← e, ← hf 2 _ rfl]
          show _ = DataW.trod enc Try.prog w base spare held n' 3 (List.take (Try.prog.cellsOf 3) (List.drop 2 [c0, c1, c2, c3]))
          rw [hn]
          rfl
        have g3 : DataW.trod enc Try.prog w base spare held n' 9 [c3] = some (xs[3]'(by omega)) := by
          have e : xs[3]? = some (xs[3]'(by omega)) := List.getElem?_eq_getElem (by omega)
          rw [← e, ← hf 3 _ rfl]
          show _ = DataW.trod enc Try.prog w base spare held n' 9 (List.take (Try.prog.cellsOf 9) (List.drop 3 [c0, c1, c2, c3]))
          rw [hb]
          rfl
        obtain ⟨o, e0, _, _⟩ := DataW.trod_int Try.underlying3 g0
        obtain ⟨u, e1, _, _⟩ := DataW.trod_int Try.underlying3 g1
        obtain ⟨v, e2, _, _⟩ := DataW.trod_int Try.underlying3 g2
        obtain ⟨s, e3, _, _⟩ := DataW.trod_string Try.underlying9 g3
        simp at e0 e1 e2 e3
        subst e0 e1 e2 e3
        refine ⟨⟨o, u, v, s.data.toList⟩, ?_, ?_, ?_, ?_⟩
        · have := hat 0 (by omega)
          simpa [Addr.add] using this
        · have := hat 1 (by omega)
          rw [Go.Deep.add_add] at this
          simpa using this
        · have := hat 2 (by omega)
          rw [Go.Deep.add_add] at this
          simpa using this
        · have := hat 3 (by omega)
          rw [Go.Deep.add_add] at this
          simpa using this)
    refine ⟨some a, cap, L, by rw [hcs, hL], fun hn0 => ⟨a, rfl, ?_, trivial, fun j u hu => by have := hc j u hu; rwa [Nat.zero_add] at this⟩⟩
    obtain ⟨u, hu⟩ : ∃ u, (icells L)[0]? = some u := by
      cases hx : icells L with
      | nil => exact absurd hx hn0
      | cons x l => exact ⟨x, rfl⟩
    have := World.block_lt_of_cell? w _ (hc 0 u hu)
    rwa [Me.block_add] at this
end IsOpen
end Go.Proofs.Ytelbabgkpflckaa
