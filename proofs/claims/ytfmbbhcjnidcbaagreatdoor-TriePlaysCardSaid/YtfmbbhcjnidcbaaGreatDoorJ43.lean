/-
  TrFind: CONTRACTS: package trie: Find, whole.
  TrLaw: WALKS: chapter 10's laws: texts, hits, known.
  GlLaw: WALKS: chapter 9's laws: texts, known, and the statements on parts and on matching.
  TrLaw2: WALKS: chapter 10's laws: known, and the statement on the order in which names come.
  TrLaw3: WALKS: chapter 10's laws: the statement on the order in which names come.
  TrLaw4: WALKS: chapter 10's laws: the statement that a name finds itself.
-/
import Derived.Test.YtfmbbhcjnidcbaaGreatDoorJ42
import Derived.Test.YtfmbbhcjnidcbaaGreatDoorJ22
import Derived.Test.YtfmbbhcjnidcbaaGreatDoorJ23
import Derived.RegionTactic
import Derived.Test.YtfmbbhcjnidcbaaGreatDoorJ34
import Derived.Test.YtfmbbhcjnidcbaaGreatDoorJ13

namespace Go.Proofs.YtfmbbhcjnidcbaaGreatDoor
open Go.RowKit
open Me
namespace Tr
theorem owns_one (W : World) (base : Nat) (e : TypeId) (x : Value) (h : base ≤ W.heap.size) : (W.alloc (.cells #[x] e)).ownsRow base e 1 (.slice (some ⟨W.heap.size, 0, none⟩) 1 1) 1 [x] :=
  ⟨rfl, .inr ⟨W.heap.size, 1, #[x], rfl, h, heap_alloc_new W _, Nat.le_refl _, by unfold maxLen; omega, rfl, rfl⟩⟩
/-- What a pattern finds among these names, of which all texts are T. -/
def findErr (s : List UInt8) (T L : List (List UInt8)) : Int := if readErr s T ≠ 0 then readErr s T else if 512 < (findD (T.map Nm.pt) L).length then 13 else 0
def findR (s : List UInt8) (T L : List (List UInt8)) : List DH := if findErr s T L = 0 then findD (T.map Nm.pt) L else []
def FindR (w : World) (er : Int) (R : List DH) (e : Ending) (w' : World) : Prop := ∃ v, e = .returned (.tuple #[v, .int .i64 er]) ∧ OwnH w.heap.size w' v R ∧ Below w.heap.size w w'
theorem At_.pathq {w : World} {b c : Nat} {F : Ns} {L : List (List UInt8)} (h : At_ w b c F L) {q : Path} (hf : F q ≠ none) : q.length ≤ 1048576 ∧ (Nm.jn q).length ≤ 1048576 := by
  obtain ⟨h1, h2, _⟩ := h.of.path h.ok hf
  exact ⟨by omega, by omega⟩
/-- search and hitsOf, one behind the other. -/
theorem look_any {w w1 : World} {b c : Nat} {F : Ns} {L : List (List UInt8)} (h : At_ w b c F L) (hm : Mx w) (hb : Below w.heap.size w w1) {rb : Nat} {T : List (List UInt8)} (hP : Pat w w1 rb T.length T) (hT : T.length ≤ 512) :
    Calls Tryz.prog 27 #[.pointer (some ⟨b, 0, none⟩), .slice none 0 0, .slice none 0 0, .slice (some ⟨w1.heap.size, 0, none⟩) 1 1] (w1.alloc (.cells #[.pointer (some ⟨rb, 0, none⟩)] 51)) fun e w2 => ∃ v, e = .returned v ∧
      Calls Tryz.prog 26 #[v] w2 fun e w3 => ∃ A n cap, e = .returned (.slice A n cap) ∧ Below w.heap.size w w3 ∧ ((512 < n ∧ 512 < (findD (T.map Nm.pt) L).length) ∨ (n = (findD (T.map Nm.pt) L).length ∧ OwnH w.heap.size w3 (.slice A n cap) (findD (T.map Nm.pt) L))) := by
  obtain ⟨n, hn, rfl⟩ := h.root
  obtain ⟨c2, G, h1, h2, ⟨y, hy, rfl⟩, h4, h5, h6⟩ := hP
  have hcb := h.cb
  have hW : Below w1.heap.size w1 (w1.alloc (.cells #[.pointer (some ⟨y.b, 0, none⟩)] 51)) := (Below.refl _ _).alloc (Nat.le_refl _) _
  have hws := hb.size
  have hx : OwnP w1.heap.size (w1.alloc (.cells #[.pointer (some ⟨y.b, 0, none⟩)] 51)) (.slice (some ⟨w1.heap.size, 0, none⟩) 1 1) G [[]] := by
    have e : pvs G [[]] = [.pointer (some ⟨y.b, 0, none⟩)] := by
      show [pv G []] = _
      rw [pv_of hy]
    unfold OwnP
    rw [e]
    exact owns_one w1 w1.heap.size 51 (.pointer (some ⟨y.b, 0, none⟩)) (Nat.le_refl _)
  have hT1 := (h.tree.below hb).below hW
  have hG1 := h2.below hW
  have hfb : ∀ i, own F i → i < w1.heap.size := fun i hi => (h.tree.below hb).lt hi
  have hdeep := search_deep (base := w1.heap.size) (T0 := 50) (x0 := .int .i64 L.length) (c := c) (c2 := c2) (N := 513) (D := 20) (F := F) (G := G) (by omega) (by omega) (two_of h.of h.ok (fun q k hf => h.tree.key q k hf) h4 hT) (fun x hx => (h.of.path h.ok hx).2.1) 20 [] n hn (by simp)
  have hmx : Mx (w1.alloc (.cells #[.pointer (some ⟨y.b, 0, none⟩)] 51)) := (hm.below hb).below hW
  have hs := hdeep _ (.slice none 0 0) (.slice none 0 0) (.slice (some ⟨w1.heap.size, 0, none⟩) 1 1) [] [[]] hT1 hG1 hfb (fun i hi => h2.lt hi) (by simp) ⟨rfl, .inl ⟨rfl, rfl⟩⟩ (fun _ h => (by cases h)) (OwnS.nil _ _) hx (by simp) (fun x => by rw [At.start h4.root]; simp) (by simp) hmx (hm.below hb).lt
  refine hs.mono ?_
  rintro e w2 ⟨v, L2, rfl, hfin, ho, hfs, _, _, hk, _, hl⟩
  rw [List.nil_append] at ho hfs hl
  have hb2 : Below (w1.alloc (.cells #[.pointer (some ⟨y.b, 0, none⟩)] 51)).heap.size (w1.alloc (.cells #[.pointer (some ⟨y.b, 0, none⟩)] 51)) w2 := hk.below (Nat.le_refl _) fun i _ hh => hh.elim (fun e => by cases e) (fun e => by cases e)
  refine ⟨v, rfl, ?_⟩
  have hwW : Below w.heap.size w (w1.alloc (.cells #[.pointer (some ⟨y.b, 0, none⟩)] 51)) := hb.trans (hW.mono hws)
  have hB2 : Below w.heap.size w w2 := hwW.trans (hb2.mono hwW.size)
  have hz : w1.heap.size ≤ w2.heap.size := Nat.le_trans (by simp) hb2.size
  have hne : ∀ f ∈ L2, f.q ≠ [] := fun f hf => beh_root.1 (hfin.beh f hf)
  refine (hitsOf_any (hT1.below hb2) (by omega) hfb hz L2 ho hfs (fun f hf => (hfin.hits.at_ f hf).1) (fun f hf => ⟨hne f hf, h.pathq (hfin.hits.at_ f hf).2.1⟩) hfin.hits.nodup hl).mono ?_
  rintro e w3 ⟨v3, qs, rfl, hp, hsrt, ho3, hb3⟩
  obtain ⟨A, cap, rfl⟩ := row_form ho3
  refine ⟨A, _, cap, rfl, hB2.trans (hb3.mono hws), ?_⟩
  have ho4 : OwnH w.heap.size w3 (.slice A (hitsAll (isBr F) (isLeaf F) qs).length cap) (hitsAll (isBr F) (isLeaf F) qs) := owns_base ho3 hB2.size
  rcases found_res h.of h4 hfin hp hsrt with h7 | h7
  · exact .inl h7
  · rw [h7] at ho4 ⊢
    exact .inr ⟨rfl, ho4⟩
end Tr

set_option maxRecDepth 100000 in
set_option maxHeartbeats 1000000 in
theorem Find_any {w : World} {b c : Nat} {F : Tr.Ns} {L : List (List UInt8)} (h : Tr.At_ w b c F L) (s : List UInt8) (T : List (List UInt8)) (hgr : Gl.bal 0 s = true → Gl.Gr false s T) (hl : s.length ≤ 4294967270) (hm : Mx w) :
    Calls Tryz.prog 10 #[.pointer (some ⟨b, 0, none⟩), .string ⟨s.toArray⟩] w (Tr.FindR w (Tr.findErr s T L) (Tr.findR s T L)) := by
  have HRd := Lib.hid (read_any s T hgr hl w hm)
  by_cases h0 : Tr.readErr s T = 0
  · have hT : T.length ≤ 512 := by
      refine (Tr.expErr_zero (s := s) ?_).2.2
      unfold Tr.readErr at h0
      split at h0
      · rename_i h1; exact absurd h0 h1
      · rename_i h1; exact Classical.not_not.1 h1
    have HR1 : Hid (Calls Tryz.prog 25 #[.string ⟨s.toArray⟩] w fun e w1 => ∃ rb, e = .returned (.tuple #[.pointer (some ⟨rb, 0, none⟩), .int .i64 0]) ∧ Tr.Pat w w1 rb T.length T ∧ Below w.heap.size w w1) := Lib.hid (HRd.out.mono fun e w1 hp => by
      rcases hp with ⟨hb, ⟨rb, he, _, hP⟩ | ⟨_, hne⟩⟩
      · exact ⟨rb, he, hP, hb⟩
      · exact absurd h0 hne)
    have HLk : Hid (∀ w1 rb, Tr.Pat w w1 rb T.length T → Below w.heap.size w w1 → Calls Tryz.prog 27 #[.pointer (some ⟨b, 0, none⟩), .slice none 0 0, .slice none 0 0, .slice (some ⟨w1.heap.size, 0, none⟩) 1 1] (w1.alloc (.cells #[.pointer (some ⟨rb, 0, none⟩)] 51)) fun e w2 => ∃ v, e = .returned v ∧
      Calls Tryz.prog 26 #[v] w2 fun e w3 => ∃ A n cap, e = .returned (.slice A n cap) ∧ Below w.heap.size w w3 ∧ ((512 < n ∧ 512 < (Tr.findD (T.map Nm.pt) L).length) ∨ (n = (Tr.findD (T.map Nm.pt) L).length ∧ Tr.OwnH w.heap.size w3 (.slice A n cap) (Tr.findD (T.map Nm.pt) L)))) := Lib.hid fun w1 rb hP hb => Tr.look_any h hm hb hP hT
    have hfe : Tr.findErr s T L = if 512 < (Tr.findD (T.map Nm.pt) L).length then 13 else 0 := by unfold Tr.findErr; rw [if_neg (fun h => h h0)]
    have HYes : Hid (512 < (Tr.findD (T.map Nm.pt) L).length → ∀ w3, Below w.heap.size w w3 → Tr.FindR w (Tr.findErr s T L) (Tr.findR s T L) (.returned (.tuple #[.slice none 0 0, .int .i64 13])) w3) := Lib.hid fun h5 w3 hb => by
      rw [if_pos h5] at hfe
      unfold Tr.findR
      rw [hfe]
      exact ⟨_, rfl, Tr.OwnH.nil _ _, hb⟩
    have HNo : Hid (¬ 512 < (Tr.findD (T.map Nm.pt) L).length → ∀ v w3, Below w.heap.size w w3 → Tr.OwnH w.heap.size w3 v (Tr.findD (T.map Nm.pt) L) → Tr.FindR w (Tr.findErr s T L) (Tr.findR s T L) (.returned (.tuple #[v, .int .i64 0])) w3) := Lib.hid fun h5 v w3 hb ho => by
      rw [if_neg h5] at hfe
      unfold Tr.findR
      rw [hfe]
      exact ⟨v, rfl, ho, hb⟩
    clear HRd hfe hT h0 hgr hm h
    generalize Tr.findErr s T L = er at *
    generalize Tr.findR s T L = R at *
    generalize Tr.findD (T.map Nm.pt) L = D at *
    go_enter Tryz.func10, Tryz.ntmps10
    go_wp2_with (first
      | (go_at_call 25; go_must (refine HR1.out.mono ?_; rintro e w1 ⟨rb, rfl, hP, hb1⟩; have HL1 := Lib.hid (HLk.out w1 rb hP hb1); clear hP))
      | (go_at_call 27; go_must (refine HL1.out.mono ?_; rintro e w2 ⟨v, rfl, hH⟩; have HH := Lib.hid hH; clear hH))
      | (go_at_call 26; go_must (refine HH.out.mono ?_; rintro e w3 ⟨A, n, cap, rfl, hb3, hres⟩; have HR3 := Lib.hid hres; clear hres)))
    all_goals ((try simp only [Exit.inBlock, Exit.then]); refine bodyPost_ret (results_tmp2 rfl _ _ _) rfl ?_)
    all_goals first
      | (rcases HR3.out with ⟨_, h6⟩ | ⟨h5, _⟩
         · exact HYes.out h6 w3 hb3
         · exact HYes.out (by omega) w3 hb3)
      | (rcases HR3.out with ⟨h5, _⟩ | ⟨h5, ho⟩
         · exfalso; omega
         · exact HNo.out (by omega) _ _ hb3 ho)
  · have hfe : Tr.findErr s T L = Tr.readErr s T := by unfold Tr.findErr; rw [if_pos h0]
    have HR1 : Hid (Calls Tryz.prog 25 #[.string ⟨s.toArray⟩] w fun e w1 => e = .returned (.tuple #[.pointer none, .int .i64 (Tr.readErr s T)]) ∧ Below w.heap.size w w1) := Lib.hid (HRd.out.mono fun e w1 hp => by
      rcases hp with ⟨hb, ⟨_, _, h1, _⟩ | ⟨he, _⟩⟩
      · exact absurd h1 h0
      · exact ⟨he, hb⟩)
    have HNo : Hid (∀ w3, Below w.heap.size w w3 → Tr.FindR w (Tr.findErr s T L) (Tr.findR s T L) (.returned (.tuple #[.slice none 0 0, .int .i64 (Tr.readErr s T)])) w3) := Lib.hid fun w3 hb => by
      unfold Tr.findR
      rw [hfe, if_neg h0]
      exact ⟨_, rfl, Tr.OwnH.nil _ _, hb⟩
    have hne : (Tr.readErr s T == 0) = false := by simpa using h0
    clear HRd hfe hgr hm h
    generalize Tr.findErr s T L = er at *
    generalize Tr.findR s T L = R at *
    generalize Tr.readErr s T = re at *
    go_enter Tryz.func10, Tryz.ntmps10
    go_wp2_with (go_at_call 25; go_must (refine HR1.out.mono ?_; rintro e w1 ⟨rfl, hb1⟩))
    ((try simp only [Exit.inBlock, Exit.then]); refine bodyPost_ret (results_tmp2 rfl _ _ _) rfl ?_)
    exact HNo.out _ hb1
end Go.Proofs.YtfmbbhcjnidcbaaGreatDoor

namespace Go.Proofs.YtfmbbhcjnidcbaaGreatDoor
open Go.RowKit
open Me

set_option maxHeartbeats 1000000 in
theorem texts_same10 (l : List (List UInt8)) (A A' : Option Addr) (c c' : Nat) (hn : l.length ≤ 4294967296) (w : World) (h : Rd w (fun _ => True) A (byS l)) (h' : Rd w (fun _ => True) A' (byS l)) :
    Calls Tryz.prog 16 #[.slice A l.length c, .slice A' l.length c'] w fun e w' => e = .returned (.bool true) ∧ Below w.heap.size w w' := by
  have HR := Lib.hid h
  have HR' := Lib.hid h'
  clear h h'
  have hnl : (l.length : Int) ≤ 4294967296 := by omega
  go_enter Tryz.func16, Tryz.ntmps16
  go_wp2_with fail
  go_loopw [5] (fun i wr => ∃ k : Nat, k ≤ l.length ∧ i = .int .i64 k ∧ Below w.heap.size w wr) (fun i _ => l.length - (intOf i).toNat)
  case atStart => exact ⟨0, Nat.zero_le _, rfl, Below.refl _ _⟩
  case round =>
    obtain ⟨k, hk, rfl, hbel⟩ := hrel
    by_cases hlt : k < l.length
    · obtain ⟨lb, lo, rfl, hlb, _, hx⟩ := HR.out.lit k (by rw [byS_len]; omega)
      obtain ⟨lb', lo', rfl, hlb', _, hx'⟩ := HR'.out.lit k (by rw [byS_len]; omega)
      have ec := (hbel.cell (p := ⟨lb, lo + k, none⟩) hlb).trans (hx k _ (byS_get l k hlt))
      have ec' := (hbel.cell (p := ⟨lb', lo' + k, none⟩) hlb').trans (hx' k _ (byS_get l k hlt))
      clear hx hx'
      have hkl : (k : Int) < (l.length : Int) := by omega
      have hk0 : (0 : Int) ≤ (k : Int) := by omega
      generalize l[k] = p at *
      have hself : (p == p) = true := by simp
      go_wp2_with fail
      go_region
      all_goals
        go_wp2_with fail
        go_roundw
        case rel => exact ⟨k + 1, by omega, by go_num, hbel.drew⟩
        case measure => simp [intOf]; omega
    · obtain rfl : k = l.length := by omega
      go_wp2
      go_ret
      exact ⟨rfl, hbel⟩


namespace Tr
theorem rdH {base : Nat} {w : World} {v : Value} {L : List DH} (h : OwnH base w v L) : ∃ A c, v = .slice A L.length c ∧ Rd w (fun _ => True) A (hvs L) := by
  obtain ⟨A, c, rfl⟩ := row_form h
  exact ⟨A, c, rfl, (Rd.own h).mono fun _ _ _ => trivial⟩
end Tr

set_option maxHeartbeats 1000000 in
theorem hits_same10 (l : List Tr.DH) (A A' : Option Addr) (c c' : Nat) (hn : l.length ≤ 4294967296) (w : World) (h : Rd w (fun _ => True) A (Tr.hvs l)) (h' : Rd w (fun _ => True) A' (Tr.hvs l)) :
    Calls Tryz.prog 12 #[.slice A l.length c, .slice A' l.length c'] w fun e w' => e = .returned (.bool true) ∧ Below w.heap.size w w' := by
  have HR := Lib.hid h
  have HR' := Lib.hid h'
  clear h h'
  have hnl : (l.length : Int) ≤ 4294967296 := by omega
  go_enter Tryz.func12, Tryz.ntmps12
  go_wp2_with fail
  go_loopw [5] (fun i wr => ∃ k : Nat, k ≤ l.length ∧ i = .int .i64 k ∧ Below w.heap.size w wr) (fun i _ => l.length - (intOf i).toNat)
  case atStart => exact ⟨0, Nat.zero_le _, rfl, Below.refl _ _⟩
  case round =>
    obtain ⟨k, hk, rfl, hbel⟩ := hrel
    by_cases hlt : k < l.length
    · obtain ⟨lb, lo, rfl, hlb, _, hx⟩ := HR.out.lit (k * 2) (by rw [Tr.hvs_len]; omega)
      obtain ⟨lb', lo', rfl, hlb', _, hx'⟩ := HR'.out.lit (k * 2) (by rw [Tr.hvs_len]; omega)
      have ec := (hbel.cell (p := ⟨lb, lo + k * 2, none⟩) hlb).trans (hx (k * 2) _ (Tr.hvs_get l k hlt).1)
      have ed := (hbel.cell (p := ⟨lb, lo + (k * 2 + 1), none⟩) hlb).trans (hx (k * 2 + 1) _ (Tr.hvs_get l k hlt).2)
      have ec' := (hbel.cell (p := ⟨lb', lo' + k * 2, none⟩) hlb').trans (hx' (k * 2) _ (Tr.hvs_get l k hlt).1)
      have ed' := (hbel.cell (p := ⟨lb', lo' + (k * 2 + 1), none⟩) hlb').trans (hx' (k * 2 + 1) _ (Tr.hvs_get l k hlt).2)
      rw [← Nat.add_assoc] at ed ed'
      clear hx hx'
      have hkl : (k : Int) < (l.length : Int) := by omega
      have hk0 : (0 : Int) ≤ (k : Int) := by omega
      generalize l[k] = p at *
      obtain ⟨p, b⟩ := p
      simp only at ec ed ec' ed'
      have hself : (p == p) = true := by simp
      have hselb : (b == b) = true := by simp
      go_wp2_with fail
      go_region
      all_goals
        go_wp2_with fail
        go_roundw
        case rel => exact ⟨k + 1, by omega, by go_num, hbel.drew⟩
        case measure => simp [intOf]; omega
    · obtain rfl : k = l.length := by omega
      go_wp2
      go_ret
      exact ⟨rfl, hbel⟩

namespace Tr
theorem known_err : findErr [97, 46, 42] [[97, 46, 42]] (newL [[97, 46, 98], [97, 46, 99], [97, 46, 98, 46, 100]]) = 0 := by decide +kernel
theorem known_hits : findR [97, 46, 42] [[97, 46, 42]] (newL [[97, 46, 98], [97, 46, 99], [97, 46, 98, 46, 100]]) = [([97, 46, 98], false), ([97, 46, 98], true), ([97, 46, 99], true)] := by decide +kernel
end Tr
end Go.Proofs.YtfmbbhcjnidcbaaGreatDoor

namespace Go.Proofs.YtfmbbhcjnidcbaaGreatDoor
open Go.RowKit
open Me

theorem rd_own {base : Nat} {w : World} {v : Value} {l : List (List UInt8)} (h : OwnS base w v l) : ∃ A c, v = .slice A l.length c ∧ Rd w (fun _ => True) A (byS l) := by
  obtain ⟨A, c, rfl⟩ := h.slice
  exact ⟨A, c, rfl, (Rd.own h).mono fun _ _ _ => trivial⟩

end Go.Proofs.YtfmbbhcjnidcbaaGreatDoor

namespace Go.Proofs.YtfmbbhcjnidcbaaGreatDoor
open Go.RowKit
open Me
namespace Tr
theorem gr_plain (s : List UInt8) (h : Gl.noSp s = true) : Gl.bal 0 s = true → Gl.Gr false s [s] := fun _ => Gl.Gr.plain h
/-- New, as a law asks it. -/
def NewC (K : List (List UInt8)) : Prop := ∀ W A cap, Rd W (fun _ => True) A (byS K) → Mx W → Calls Tryz.prog 5 #[.slice A K.length cap] W fun e w' => e = .returned (.pointer (some ⟨W.heap.size, 0, none⟩)) ∧ Own_ W w' W.heap.size K.length (newL K)
theorem newC (K : List (List UInt8)) (hn : K.length ≤ 10000) (hl : ∀ s ∈ K, s.length ≤ 4294967270) : NewC K := fun W A cap hr hm => New_any K A cap W hr hn hl hm
/-- Find, as a law asks it. -/
theorem findC (s : List UInt8) (T : List (List UInt8)) (hgr : Gl.bal 0 s = true → Gl.Gr false s T) (hl : s.length ≤ 4294967270) (L : List (List UInt8)) (k : Nat) : ∀ w0 W b, Own_ w0 W b k L → Mx W → Calls Tryz.prog 10 #[.pointer (some ⟨b, 0, none⟩), .string ⟨s.toArray⟩] W fun e w' => ∃ v, e = .returned (.tuple #[v, .int .i64 (findErr s T L)]) ∧ OwnH W.heap.size w' v (findR s T L) ∧ Below W.heap.size W w' := fun w0 W b h hm => by
  obtain ⟨c, F, _, ha, _, _⟩ := h
  exact Find_any ha s T hgr hl hm
theorem namesC (L : List (List UInt8)) (k : Nat) : ∀ w0 W b, Own_ w0 W b k L → Calls Tryz.prog 17 #[.pointer (some ⟨b, 0, none⟩)] W fun e w' => ∃ v, e = .returned v ∧ OwnS W.heap.size w' v L ∧ Below W.heap.size W w' := fun w0 W b h => by
  obtain ⟨c, F, _, ha, _, _⟩ := h
  exact Names_any ha
theorem Own_.b {w W : World} {b k : Nat} {L : List (List UInt8)} (h : Own_ w W b k L) : Below w.heap.size w W := by
  obtain ⟨_, _, _, _, _, h⟩ := h
  exact h
end Tr

set_option maxRecDepth 100000 in
set_option maxHeartbeats 1000000 in
theorem known10_walk (w : World) (HM : Hid (∀ W, Below w.heap.size w W → Mx W)) (K LK : List (List UInt8)) (KH : List Tr.DH)
    (HN : Hid (∀ W A cap b, b = W.heap.size → Rd W (fun _ => True) A (byS K) → Mx W → Calls Tryz.prog 5 #[.slice A 3 cap] W fun e w' => e = .returned (.pointer (some ⟨b, 0, none⟩)) ∧ Tr.Own_ W w' b 3 LK))
    (HFi : Hid (∀ w0 W b, Tr.Own_ w0 W b 3 LK → Mx W → Calls Tryz.prog 10 #[.pointer (some ⟨b, 0, none⟩), .string ⟨#[97, 46, 42]⟩] W fun e w' => ∃ v, e = .returned (.tuple #[v, .int .i64 0]) ∧ Tr.OwnH W.heap.size w' v KH ∧ Below W.heap.size W w'))
    (HT : Hid (∀ A A' c c' W, Rd W (fun _ => True) A (Tr.hvs KH) → Rd W (fun _ => True) A' (Tr.hvs KH) → Calls Tryz.prog 12 #[.slice A 3 c, .slice A' 3 c'] W fun e w' => e = .returned (.bool true) ∧ Below W.heap.size W w'))
    (HRd : Hid (∀ base W v, Tr.OwnH base W v KH → ∃ A c, v = .slice A 3 c ∧ Rd W (fun _ => True) A (Tr.hvs KH)))
    (HF : Hid (∀ W : World, Rd (W.alloc (.cells #[.string ⟨#[97, 46, 98]⟩, .string ⟨#[97, 46, 99]⟩, .string ⟨#[97, 46, 98, 46, 100]⟩] 9)) (fun _ => True) (some ⟨W.heap.size, 0, none⟩) (byS K)))
    (HF2 : Hid (∀ W : World, Rd (W.alloc (.cells #[.string ⟨#[97, 46, 98]⟩, .bool false, .string ⟨#[97, 46, 98]⟩, .bool true, .string ⟨#[97, 46, 99]⟩, .bool true] 67)) (fun _ => True) (some ⟨W.heap.size, 0, none⟩) (Tr.hvs KH))) :
    Calls Tryz.prog 18 #[] w fun e w' => e = .returned (.bool true) ∧ Below w.heap.size w w' := by
  go_enter Tryz.func18, Tryz.ntmps18
  go_wp2_with first
    | (go_at_call 5; go_must (refine (HN.out _ _ _ (w.heap.size + 1) (by simp) (HF.out _) (HM.out _ ((Below.refl _ _).alloc (Nat.le_refl _) _))).mono ?_; rintro e w1 ⟨rfl, ho⟩; have HO1 := Lib.hid ho; have hb1 := ((Below.refl w.heap.size w).alloc (Nat.le_refl _) (.cells #[.string ⟨#[97, 46, 98]⟩, .string ⟨#[97, 46, 99]⟩, .string ⟨#[97, 46, 98, 46, 100]⟩] 9)).trans (ho.b.mono (by simp)); clear ho))
    | (go_at_call 10; go_must (refine (HFi.out _ _ _ HO1.out (HM.out _ hb1)).mono ?_; rintro e w2 ⟨v, rfl, ho2, hb2⟩; have hB2 := hb1.trans (hb2.mono hb1.size); obtain ⟨A, c, rfl, hr⟩ := HRd.out _ _ _ ho2; have HR := Lib.hid hr; clear ho2 hr))
    | (go_at_call 12; go_must (refine (HT.out _ _ _ _ _ (HR.out.below ((Below.refl _ _).alloc (Nat.le_refl _) _)) (HF2.out _)).mono ?_; rintro e w3 ⟨rfl, hb3⟩; have hb2' := hB2.alloc hB2.size (.cells #[.string ⟨#[97, 46, 98]⟩, .bool false, .string ⟨#[97, 46, 98]⟩, .bool true, .string ⟨#[97, 46, 99]⟩, .bool true] 67); have hB3 := hb2'.trans (hb3.mono hb2'.size)))
  go_ret
  exact ⟨rfl, hB3⟩

theorem known10_any (w : World) (hm : Mx w) :
    Calls Tryz.prog 18 #[] w fun e w' => e = .returned (.bool true) ∧ Below w.heap.size w w' := by
  have HFi := Tr.findC [97, 46, 42] [[97, 46, 42]] (Tr.gr_plain _ (by decide +kernel)) (by simp) (Tr.newL [[97, 46, 98], [97, 46, 99], [97, 46, 98, 46, 100]]) 3
  rw [Tr.known_err, Tr.known_hits] at HFi
  have HN := Tr.newC [[97, 46, 98], [97, 46, 99], [97, 46, 98, 46, 100]] (by simp) (fun s hs => by simp at hs; rcases hs with rfl | rfl | rfl <;> simp)
  exact known10_walk w (Lib.hid fun W h => hm.below h) [[97, 46, 98], [97, 46, 99], [97, 46, 98, 46, 100]] (Tr.newL [[97, 46, 98], [97, 46, 99], [97, 46, 98, 46, 100]]) [([97, 46, 98], false), ([97, 46, 98], true), ([97, 46, 99], true)]
    (Lib.hid fun W A cap b hb => by subst hb; exact HN W A cap) (Lib.hid HFi)
    (Lib.hid fun A A' c c' W h h' => hits_same10 [([97, 46, 98], false), ([97, 46, 98], true), ([97, 46, 99], true)] A A' c c' (by simp) W h h')
    (Lib.hid fun base W v => @Tr.rdH base W v [([97, 46, 98], false), ([97, 46, 98], true), ([97, 46, 99], true)])
    (Lib.hid fun W => (Rd.fresh W (byS [[97, 46, 98], [97, 46, 99], [97, 46, 98, 46, 100]]) 9 _ rfl).mono fun _ _ _ => trivial)
    (Lib.hid fun W => (Rd.fresh W (Tr.hvs [([97, 46, 98], false), ([97, 46, 98], true), ([97, 46, 99], true)]) 67 _ rfl).mono fun _ _ _ => trivial)
end Go.Proofs.YtfmbbhcjnidcbaaGreatDoor

namespace Go.Proofs.YtfmbbhcjnidcbaaGreatDoor
open Go.RowKit
open Me
namespace Tr
theorem from_sorted : ∀ (l L : List (List UInt8)), L.Pairwise RN → (l.foldl insV L).Pairwise RN
  | [], _, h => h
  | s :: r, L, h => from_sorted r (insV L s) (by
    unfold insV
    split
    · split
      · exact h
      · rename_i hn; exact ins_sorted h hn
    · exact h)
theorem newL_sorted (l : List (List UInt8)) : (newL l).Pairwise RN := from_sorted l [] List.Pairwise.nil
theorem newL_rev (l : List (List UInt8)) : newL l.reverse = newL l := names_uniq (newL_sorted _) (newL_sorted _) fun t => by rw [mem_newL, mem_newL, List.mem_reverse]
theorem newL_len (l : List (List UInt8)) : (newL l).length ≤ l.length := len_le_of_mem (nodup_of RN.irr (newL_sorted l)) fun t h => ((mem_newL l t).1 h).1
theorem findR_len (s : List UInt8) (T L : List (List UInt8)) : (findR s T L).length ≤ 512 := by
  unfold findR
  split
  · rename_i h
    unfold findErr at h
    split at h
    · rename_i h1; exact absurd h h1
    · split at h
      · cases h
      · omega
  · exact Nat.zero_le _
theorem lenC (L : List (List UInt8)) (k : Nat) : ∀ w0 W b, Own_ w0 W b k L → Calls Tryz.prog 15 #[.pointer (some ⟨b, 0, none⟩)] W fun e w' => e = .returned (.int .i64 L.length) ∧ Below W.heap.size W w' := fun w0 W b h => by
  obtain ⟨c, F, _, ha, _, _⟩ := h
  exact Len_any ha
end Tr

end Go.Proofs.YtfmbbhcjnidcbaaGreatDoor

namespace Go.Proofs.YtfmbbhcjnidcbaaGreatDoor
open Go.RowKit
open Me

set_option maxHeartbeats 1000000 in
theorem refIs_all (s : List UInt8) (w : World) : Calls Tryz.prog 22 #[.string ⟨s.toArray⟩] w fun e w' => e = .returned (.bool (Nm.is s)) ∧ Below w.heap.size w w' := by
  by_cases h : s.length ≤ 4294967270
  · exact refIs_any s h w
  · have hs : (⟨s.toArray⟩ : ByteArray).size = s.length := by show s.toArray.size = _; simp
    have h0' : ¬ (s.length : Int) < 1 := by omega
    have h2' : (200 : Int) < (s.length : Int) := by omega
    have HQ := Lib.hid (@Nm.is_long s (by omega))
    generalize Nm.is s = R at *
    clear h
    go_enter Tryz.func22, Tryz.ntmps22
    go_wp2_with fail
    go_ret
    exact ⟨Nm.ret_bool HQ.out.symm, Below.refl _ _⟩

namespace Tr
theorem jn_plain : ∀ (L : Path), (∀ p ∈ L, p.all Nm.okB = true) → Gl.plainB (Nm.jn L) = true := by
  intro L h
  have key : ∀ s : List UInt8, (∀ p ∈ Nm.pt s, p.all Nm.okB = true) → Gl.plainB s = true := by
    intro s
    induction s with
    | nil => intro _; rfl
    | cons b r ih =>
      intro h
      rw [Nm.pt] at h
      unfold Gl.plainB at ih ⊢
      rw [List.all_cons]
      by_cases e : b = 46
      · rw [if_pos e] at h
        rw [ih fun p hp => h p (List.mem_cons_of_mem _ hp), e]; rfl
      · rw [if_neg e] at h
        cases hp : Nm.pt r with
        | nil => exact absurd hp (Nm.pt_ne r)
        | cons p q =>
          rw [hp] at h ih
          have h1 := h (b :: p) (List.mem_cons_self ..)
          rw [List.all_cons, Bool.and_eq_true] at h1
          rw [h1.1, ih fun x hx => by
            rcases List.mem_cons.1 hx with rfl | hx
            · exact h1.2
            · exact h x (List.mem_cons_of_mem _ hx)]
          simp
  by_cases e : L = []
  · subst e; rfl
  · refine key _ fun p hp => ?_
    rw [Nm.pt_jn L e fun p hp => by
      have h1 := h p hp
      unfold Nm.noDot
      rw [List.all_eq_true] at h1 ⊢
      intro x hx
      have h2 := h1 x hx
      have : x ≠ 46 := by rintro rfl; revert h2; decide
      simpa using this] at hp
    exact h p hp
theorem is_plain {s : List UInt8} (h : Nm.is s = true) : Gl.plainB s = true := by
  have h1 : Gl.plainB (Nm.jn (Nm.pt s)) = true := jn_plain (Nm.pt s) fun p hp => okP_plain (Nm.is_all h p hp)
  rwa [Nm.jn_pt] at h1
theorem is_pos {s : List UInt8} (h : Nm.is s = true) : 0 < s.length := by
  cases s with
  | nil => rw [Nm.is_nil] at h; cases h
  | cons a r => simp
theorem goodP_plain {p : List UInt8} (h : Nm.okP p = true) : Gl.goodP p = true := by
  unfold Nm.okP at h
  obtain ⟨h1, h2⟩ := Bool.and_eq_true_iff.1 h
  unfold Gl.goodP
  rw [Gl.simple_plain p h2]
  simpa using h1
theorem self_read {s : List UInt8} (h : Nm.is s = true) : readErr s [s] = 0 := by
  have h1 := Gl.expErr_plain s (is_plain h) (is_pos h) (is_len h).1
  unfold readErr
  rw [if_neg (fun h => h h1), if_pos]
  rw [List.all_cons, List.all_nil, Bool.and_true]
  unfold Gl.partsOk
  rw [decide_eq_true (is_len h).2, Bool.true_and, List.all_eq_true]
  exact fun p hp => goodP_plain (Nm.is_all h p hp)
theorem mtch_plain : ∀ (a b : Path), (∀ p ∈ a, p.all Nm.okB = true) → mtch a b = decide (b = a)
  | [], [], _ => rfl
  | [], _ :: _, _ => rfl
  | _ :: _, [], _ => rfl
  | x :: xs, y :: ys, h => by
    rw [mtch, Gl.gm_plain x y (h x (List.mem_cons_self ..)), mtch_plain xs ys fun p hp => h p (List.mem_cons_of_mem _ hp)]
    simp [List.cons.injEq]
theorem self_found {s : List UInt8} (h : Nm.is s = true) (L : List (List UInt8)) (y : DH) : y ∈ findD [Nm.pt s] L → y.1 = s ∧ (y.2 = true → s ∈ L) := by
  intro hy
  obtain ⟨p, hp, t, ht, he⟩ := (mem_findD _ _ _).1 hy
  rw [List.mem_singleton] at hp
  subst hp
  unfold hit at he
  split at he
  · rename_i hc
    have hy := Option.some.inj he
    have hm := hc.2
    rw [mtch_plain _ _ fun p hp => okP_plain (Nm.is_all h p hp)] at hm
    have hm := of_decide_eq_true hm
    rw [← hy]
    refine ⟨by show Nm.jn _ = s; rw [hm, Nm.jn_pt], fun h2 => ?_⟩
    have h3 : (Nm.pt t).length = (Nm.pt s).length := of_decide_eq_true h2
    rw [← h3, List.take_length] at hm
    rw [← pt_inj hm]; exact ht
  · cases he
theorem self_in {s : List UInt8} (h : Nm.is s = true) {L : List (List UInt8)} (hs : s ∈ L) : (s, true) ∈ findD [Nm.pt s] L := by
  rw [mem_findD]
  refine ⟨_, List.mem_singleton.2 rfl, s, hs, ?_⟩
  unfold hit
  rw [List.take_length, if_pos ⟨Nat.le_refl _, by rw [mtch_plain _ _ fun p hp => okP_plain (Nm.is_all h p hp)]; simp⟩, Nm.jn_pt]
  simp
theorem self_err {s : List UInt8} (h : Nm.is s = true) (L : List (List UInt8)) : findErr s [s] L = 0 ∧ findR s [s] L = findD [Nm.pt s] L := by
  have hl : (findD [Nm.pt s] L).length ≤ [(s, false), (s, true)].length := len_le_of_mem (nodup_of RH.irr (findD_sorted _ _)) fun y hy => by
    have h1 := (self_found h L y hy).1
    obtain ⟨a, b⟩ := y
    simp only at h1
    subst h1
    cases b <;> simp
  have h1 : findErr s [s] L = 0 := by
    unfold findErr
    rw [if_neg (fun h0 => h0 (self_read h)), if_neg]
    show ¬ 512 < (findD [Nm.pt s] L).length
    simp only [List.length_cons, List.length_nil] at hl
    omega
  exact ⟨h1, by unfold findR; rw [if_pos h1]; rfl⟩
theorem self_leaf {s : List UInt8} (h : Nm.is s = true) (L : List (List UInt8)) : (findD [Nm.pt s] L).any (·.2) = decide (s ∈ L) := by
  by_cases hs : s ∈ L
  · rw [decide_eq_true hs]
    exact List.any_eq_true.2 ⟨_, self_in h hs, rfl⟩
  · rw [decide_eq_false hs]
    refine List.any_eq_false.2 fun y hy e => hs ((self_found h L y hy).2 e)
theorem hasC (s : List UInt8) (hl : s.length ≤ 4294967270) (L : List (List UInt8)) (k : Nat) : ∀ w0 W b, Own_ w0 W b k L → Mx W → Calls Tryz.prog 13 #[.pointer (some ⟨b, 0, none⟩), .string ⟨s.toArray⟩] W fun e w' => e = .returned (.bool (decide (s ∈ L))) ∧ Below W.heap.size W w' := fun w0 W b h hm => by
  obtain ⟨c, F, _, ha, _, _⟩ := h
  exact Has_any ha s hl hm
end Tr

end Go.Proofs.YtfmbbhcjnidcbaaGreatDoor
