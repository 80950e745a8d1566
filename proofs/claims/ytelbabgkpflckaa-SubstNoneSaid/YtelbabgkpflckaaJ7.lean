/-
  PkWalk: CONTRACTS: chapter 12: the document's walk from a place: its loop's body, and what holds of it from round to round.
-/
import Derived.Test.YtelbabgkpflckaaJ6
import Derived.RegionTactic
import Derived.Deep.RegionLaw
import Derived.Deep.Cut

set_option linter.unusedSimpArgs false
set_option linter.unusedVariables false
namespace Go.Proofs.Ytelbabgkpflckaa
open Go.RowKit Go.Sort
open Me
open Pk

namespace Pk
open Rx (In)
theorem mk_bools (n : Nat) (hn : n ≤ 4294967290) (W : World) :
    (Instr.makeSlice 91 (.int .i64 (n : Int)) (.int .i64 (n : Int))).run Try.prog W = .ok (.slice (some ⟨W.heap.size, 0, none⟩) n n) (W.alloc (.cells (Array.replicate n (Value.bool false)) 4)) := by
  obtain ⟨i0, hi, hz0, hz1, hz2⟩ := info_parts bool_info
  have h := run_make (P := Try.prog) W 91 4 i0 _ Try.underlying91 hi hz0 .i64 .i64 n n (by omega) (Int.le_refl _) (by rw [hz2]; omega) (by omega)
  have e : madeCells (Value.bool false).cells ((n : Int).toNat * i0.size) = Array.replicate n (Value.bool false) := by
    apply Array.toList_inj.1
    rw [hz1, Int.toNat_natCast, Nat.mul_one]
    have := toList_madeCells_one (.bool false) n
    rw [show (Value.bool false).cells = #[.bool false] from rfl, this]
    simp
  rw [e] at h
  rw [h]
  rfl
theorem int_info2 : (Try.prog.info? 3).map (fun i => (i.zero, i.size, i.bytes)) = some (some (.int .i64 0), 1, 8) := by kernel_rfl
/-- What the document's walk leaves. -/
def Walkd (W : World) (R : Option Row) (e : Ending) (W' : World) : Prop := ∃ v b, e = .returned (.tuple #[v, .bool b]) ∧ Below W.heap.size W W' ∧ match R with
  | none => v = .slice none 0 0 ∧ b = false
  | some r => b = true ∧ ∃ A c, v = .slice A r.length c ∧ Rd W' (fun i => W.heap.size ≤ i) A (iv r)
/-- The walk's loop. -/
def lastLoop : Code → Option Code
  | .loop c => some c
  | .seq a b => match lastLoop b with
    | some c => some c
    | none => lastLoop a
  | .block _ c => lastLoop c
  | .scope c => lastLoop c
  | _ => none
noncomputable def wbody : Code := ((Try.f27.body.bind lastLoop).getD .skip)
set_option maxRecDepth 1000000 in
/-- What holds at the loop's head. -/
def WI (G : Nat) (A : Option Addr) (L : List Rx.In) (cp : Nat) (t : List UInt8) (k pb : Nat) (Av : Option Addr) (cv j gs n : Nat) (wb : World) (R : Option Row) (u21 u22 u23 u24 u25 : Value) (a' : Act) (w' : World) : Prop :=
  ∃ u6 u7 u11 u12 u13 u14 u38 u39 u40 u41 u42 u43 u44 u45 u46 u47 u48 u49 u50 u51 u52 u53 u54 u55 u56 u57 u58 u59 u60 u61 u62 u63 u64 u65 u66 u67 u68 u69 u70 u71 u72 u73 u74 u75 u76 u77 u78 u79 u80 u81 u82 u83 u84 u85 u86 u87 u88 u89 u90 u91 u92 u93 u94 u95 u96 u97 u98 u99 u100 u101 u102 u103 u104 u105 u106 u107 u108 u109 u110 u111 u112 u113 u114 u115 u116 u117 u118 u119 u120 u121 u122 u123 u124 u125 u126 u127 u128 u129 u130 u131 u132 u133 u134 u135 u136 u137 u138 u139 u140 u141 u142 u143 u144 u145 u146 u147 u148 u149 u150 u151 u152 u153 u154 u155 u156 u157 u158 u159 u160 u161 u162 u163 u164 u165 u166 u167 u168 u169 u170 u171 u172 u173 u174 u175 u176 u177 u178 u179 u180 u181 u182 u183 u184 u185 u186 u187 u188 u189 u190 u191 u192 u193 u194 u195 u196 u197 u198 u199 u200 u201 u202 u203 u204 u205 u206 u207 u208 u209 u210 u211 u212 u213 u214 u215 u216 u217 u218 u219 u220 u221 u222 u223 u224 : Value, (∃ ws bs, (∃ Al cl, u11 = .slice Al (List.length ws) cl) ∧ Hid (Pk.Wl w' (pb + 1) gs j L t u11 ws bs) ∧ Hid (Below (pb + 1) wb w') ∧ Hid ((Pk.dfs L t (Pk.rdS t.length bs) (ws.map Pk.Way.ent)).1 = R) ∧ List.length ws + 2 * Pk.free n (fun i => bs.getD i false) ≤ 2 * n + 1) ∧ a' = ⟨#[.agg #[.int .i64 (G : Int), .slice A L.length cp], .string ⟨t.toArray⟩, .int .i64 (k : Int), .pointer (some ⟨pb, 0, none⟩), undef, undef, u6, u7, .slice Av j cv, .int .i64 (j : Int), .slice (some ⟨gs, 0, none⟩) n n, u11, u12, u13, u14, .int .i64 (j : Int), .pointer (some ⟨pb, 0, none⟩), .int .i64 (G : Int), .int .i64 (2 * (G : Int)), .int .i64 (j : Int), .bool false, u21, u22, u23, u24, u25, .pointer (some ⟨pb, 1, none⟩), .slice A L.length cp, .int .i64 (L.length : Int), .string ⟨t.toArray⟩, .int .i64 (t.length : Int), .int .i64 ((t.length : Int) + 1), .int .i64 (n : Int), .slice (some ⟨gs, 0, none⟩) n n, .int .i64 (k : Int), .slice Av j cv, .agg #[.int .i64 0, .int .i64 (k : Int), .slice Av j cv], .slice (some ⟨gs + 1, 0, none⟩) 1 1, u38, u39, u40, u41, u42, u43, u44, u45, u46, u47, u48, u49, u50, u51, u52, u53, u54, u55, u56, u57, u58, u59, u60, u61, u62, u63, u64, u65, u66, u67, u68, u69, u70, u71, u72, u73, u74, u75, u76, u77, u78, u79, u80, u81, u82, u83, u84, u85, u86, u87, u88, u89, u90, u91, u92, u93, u94, u95, u96, u97, u98, u99, u100, u101, u102, u103, u104, u105, u106, u107, u108, u109, u110, u111, u112, u113, u114, u115, u116, u117, u118, u119, u120, u121, u122, u123, u124, u125, u126, u127, u128, u129, u130, u131, u132, u133, u134, u135, u136, u137, u138, u139, u140, u141, u142, u143, u144, u145, u146, u147, u148, u149, u150, u151, u152, u153, u154, u155, u156, u157, u158, u159, u160, u161, u162, u163, u164, u165, u166, u167, u168, u169, u170, u171, u172, u173, u174, u175, u176, u177, u178, u179, u180, u181, u182, u183, u184, u185, u186, u187, u188, u189, u190, u191, u192, u193, u194, u195, u196, u197, u198, u199, u200, u201, u202, u203, u204, u205, u206, u207, u208, u209, u210, u211, u212, u213, u214, u215, u216, u217, u218, u219, u220, u221, u222, u223, u224], []⟩
/-- What each round lessens. -/
def Wmu (gs : Nat) (L : List In) (t : List UInt8) (a' : Act) (w' : World) : Nat := 2 * Pk.leftS gs (L.length * (t.length + 1)) w' + Pk.lenOf (a'.tmps.getD 11 undef)
end Pk

set_option linter.unusedVariables false in
set_option maxRecDepth 1000000 in
set_option maxHeartbeats 200000000 in
theorem walk_out {W wb wr : World} {A Av : Option Addr} {cp cv : Nat} {L : List Rx.In} {t : List UInt8} {G k n j pb gs : Nat} {R : Option Pk.Row} {K : Act → World → Prop} {u6 u7 u12 u13 u14 u38 u39 u40 u41 u42 u43 u44 u45 u46 u47 u48 u49 u50 u51 u52 u53 u54 u55 u56 u57 u58 u59 u60 u61 u62 u63 u64 u65 u66 u67 u68 u69 u70 u71 u72 u73 u74 u75 u76 u77 u78 u79 u80 u81 u82 u83 u84 u85 u86 u87 u88 u89 u90 u91 u92 u93 u94 u95 u96 u97 u98 u99 u100 u101 u102 u103 u104 u105 u106 u107 u108 u109 u110 u111 u112 u113 u114 u115 u116 u117 u118 u119 u120 u121 u122 u123 u124 u125 u126 u127 u128 u129 u130 u131 u132 u133 u134 u135 u136 u137 u138 u139 u140 u141 u142 u143 u144 u145 u146 u147 u148 u149 u150 u151 u152 u153 u154 u155 u156 u157 u158 u159 u160 u161 u162 u163 u164 u165 u166 u167 u168 u169 u170 u171 u172 u173 u174 u175 u176 u177 u178 u179 u180 u181 u182 u183 u184 u185 u186 u187 u188 u189 u190 u191 u192 u193 u194 u195 u196 u197 u198 u199 u200 u201 u202 u203 u204 u205 u206 u207 u208 u209 u210 u211 u212 u213 u214 u215 u216 u217 u218 u219 u220 u221 u222 u223 u224 u21 u22 u23 u24 u25 : Value} {ws : List Pk.Way} {bs : List Bool} {Al : Option Addr} {cl a : Nat} {pc : Int} {v : Value} {r : Pk.Row} (hL : L.length ≤ 4096) (ht : t.length ≤ 100000) (hG : G ≤ 1024) (hk : k ≤ t.length) (hGI : (0 : Int) ≤ (G : Int)) (hGI2 : (G : Int) ≤ 1024) (hnb : n ≤ 4096 * 100001) (hnI : (L.length : Int) * ((t.length : Int) + 1) = (n : Int)) (hnw : IntKind.i64.wrap (n : Int) = (n : Int)) (hnwI : (n : Int) ≤ 409604096) (HNN : Hid (n = L.length * (t.length + 1))) (hlt : (t.length : Int) ≤ 100000) (HPR : Hid (∀ x ∈ L, x.p.length ≤ 1048576)) (HPB : Hid (pb = W.heap.size)) (HB0 : Hid (Below W.heap.size W wb)) (HP1 : Hid (Rd wb (fun i => i < W.heap.size) A (icells L))) (hsz : wb.heap.size = pb + 1) (hc1 : wb.cell? ⟨pb, 1, none⟩ = some (.slice A L.length cp)) (hc0 : wb.cell? ⟨pb, 0, none⟩ = some (.int .i64 (G : Int))) (hwI : (2 : Int) * (G : Int) + 2 = (j : Int)) (hw2 : 2 ≤ j) (hw4 : j ≤ 4096) (HW : Hid (Pk.Wl wr (pb + 1) gs j L t (.slice Al (List.length ((⟨pc, a, v, r⟩ : Pk.Way) :: ws)) cl) ((⟨pc, a, v, r⟩ : Pk.Way) :: ws) bs)) (HB : Hid (Below (pb + 1) wb wr)) (HD : Hid ((Pk.dfs L t (Pk.rdS t.length bs) (((⟨pc, a, v, r⟩ : Pk.Way) :: ws).map Pk.Way.ent)).1 = R)) (hcnt : List.length ((⟨pc, a, v, r⟩ : Pk.Way) :: ws) + 2 * Pk.free n (fun i => bs.getD i false) ≤ 2 * n + 1) (ef : Pk.fetch L pc = none) (hr : pc < 0 ∨ (L.length : Int) ≤ pc) : Code.wp Try.prog Pk.wbody (Exit.then (fun a' w' => Pk.WI G A L cp t k pb Av cv j gs n wb R u21 u22 u23 u24 u25 a' w' ∧ Pk.Wmu gs L t a' w' < Pk.Wmu gs L t ⟨#[.agg #[.int .i64 (G : Int), .slice A L.length cp], .string ⟨t.toArray⟩, .int .i64 (k : Int), .pointer (some ⟨pb, 0, none⟩), undef, undef, u6, u7, .slice Av j cv, .int .i64 (j : Int), .slice (some ⟨gs, 0, none⟩) n n, .slice Al (List.length ((⟨pc, a, v, r⟩ : Pk.Way) :: ws)) cl, u12, u13, u14, .int .i64 (j : Int), .pointer (some ⟨pb, 0, none⟩), .int .i64 (G : Int), .int .i64 (2 * (G : Int)), .int .i64 (j : Int), .bool false, u21, u22, u23, u24, u25, .pointer (some ⟨pb, 1, none⟩), .slice A L.length cp, .int .i64 (L.length : Int), .string ⟨t.toArray⟩, .int .i64 (t.length : Int), .int .i64 ((t.length : Int) + 1), .int .i64 (n : Int), .slice (some ⟨gs, 0, none⟩) n n, .int .i64 (k : Int), .slice Av j cv, .agg #[.int .i64 0, .int .i64 (k : Int), .slice Av j cv], .slice (some ⟨gs + 1, 0, none⟩) 1 1, u38, u39, u40, u41, u42, u43, u44, u45, u46, u47, u48, u49, u50, u51, u52, u53, u54, u55, u56, u57, u58, u59, u60, u61, u62, u63, u64, u65, u66, u67, u68, u69, u70, u71, u72, u73, u74, u75, u76, u77, u78, u79, u80, u81, u82, u83, u84, u85, u86, u87, u88, u89, u90, u91, u92, u93, u94, u95, u96, u97, u98, u99, u100, u101, u102, u103, u104, u105, u106, u107, u108, u109, u110, u111, u112, u113, u114, u115, u116, u117, u118, u119, u120, u121, u122, u123, u124, u125, u126, u127, u128, u129, u130, u131, u132, u133, u134, u135, u136, u137, u138, u139, u140, u141, u142, u143, u144, u145, u146, u147, u148, u149, u150, u151, u152, u153, u154, u155, u156, u157, u158, u159, u160, u161, u162, u163, u164, u165, u166, u167, u168, u169, u170, u171, u172, u173, u174, u175, u176, u177, u178, u179, u180, u181, u182, u183, u184, u185, u186, u187, u188, u189, u190, u191, u192, u193, u194, u195, u196, u197, u198, u199, u200, u201, u202, u203, u204, u205, u206, u207, u208, u209, u210, u211, u212, u213, u214, u215, u216, u217, u218, u219, u220, u221, u222, u223, u224], []⟩ wr) (Exit.inBlock 2 (Exit.then K (bodyPost Try.prog Try.f27 (Pk.Walkd W R))))) ⟨#[.agg #[.int .i64 (G : Int), .slice A L.length cp], .string ⟨t.toArray⟩, .int .i64 (k : Int), .pointer (some ⟨pb, 0, none⟩), undef, undef, u6, u7, .slice Av j cv, .int .i64 (j : Int), .slice (some ⟨gs, 0, none⟩) n n, .slice Al (List.length ((⟨pc, a, v, r⟩ : Pk.Way) :: ws)) cl, u12, u13, u14, .int .i64 (j : Int), .pointer (some ⟨pb, 0, none⟩), .int .i64 (G : Int), .int .i64 (2 * (G : Int)), .int .i64 (j : Int), .bool false, u21, u22, u23, u24, u25, .pointer (some ⟨pb, 1, none⟩), .slice A L.length cp, .int .i64 (L.length : Int), .string ⟨t.toArray⟩, .int .i64 (t.length : Int), .int .i64 ((t.length : Int) + 1), .int .i64 (n : Int), .slice (some ⟨gs, 0, none⟩) n n, .int .i64 (k : Int), .slice Av j cv, .agg #[.int .i64 0, .int .i64 (k : Int), .slice Av j cv], .slice (some ⟨gs + 1, 0, none⟩) 1 1, u38, u39, u40, u41, u42, u43, u44, u45, u46, u47, u48, u49, u50, u51, u52, u53, u54, u55, u56, u57, u58, u59, u60, u61, u62, u63, u64, u65, u66, u67, u68, u69, u70, u71, u72, u73, u74, u75, u76, u77, u78, u79, u80, u81, u82, u83, u84, u85, u86, u87, u88, u89, u90, u91, u92, u93, u94, u95, u96, u97, u98, u99, u100, u101, u102, u103, u104, u105, u106, u107, u108, u109, u110, u111, u112, u113, u114, u115, u116, u117, u118, u119, u120, u121, u122, u123, u124, u125, u126, u127, u128, u129, u130, u131, u132, u133, u134, u135, u136, u137, u138, u139, u140, u141, u142, u143, u144, u145, u146, u147, u148, u149, u150, u151, u152, u153, u154, u155, u156, u157, u158, u159, u160, u161, u162, u163, u164, u165, u166, u167, u168, u169, u170, u171, u172, u173, u174, u175, u176, u177, u178, u179, u180, u181, u182, u183, u184, u185, u186, u187, u188, u189, u190, u191, u192, u193, u194, u195, u196, u197, u198, u199, u200, u201, u202, u203, u204, u205, u206, u207, u208, u209, u210, u211, u212, u213, u214, u215, u216, u217, u218, u219, u220, u221, u222, u223, u224], []⟩ wr := by
  obtain ⟨i0, hi0, hz0, hz1, hz2⟩ := info_parts Pk.int_info2
  have HI := Lib.hid hi0
  have HZ := Lib.hid (And.intro hz0 (And.intro hz1 hz2))
  clear hi0 hz0 hz1 hz2
  obtain ⟨i1, hi1, hy0, hy1, hy2⟩ := info_parts Pk.way_info
  have HI1 := Lib.hid hi1
  have HZ1 := Lib.hid (And.intro hy0 (And.intro hy1 hy2))
  clear hi1 hy0 hy1 hy2
  unfold Pk.WI Pk.Wmu
  conv => arg 2; whnf
  try dsimp only
  have e1 : wr.cell? ⟨pb, 1, none⟩ = some (.slice A L.length cp) := (HB.out.cell (p := ⟨pb, 1, none⟩) (by show pb < pb + 1; omega)).trans hc1
  have hsr := HB.out.size
  have hpr : pb < wr.heap.size := by omega
  obtain ⟨Ar, cr, hv, _⟩ := HW.out.rows ⟨pc, a, v, r⟩ List.mem_cons_self
  have hv : v = .slice Ar r.length cr := hv
  subst hv
  have hat : a ≤ t.length := HW.out.at_ ⟨pc, a, _, r⟩ List.mem_cons_self
  have hatI : (a : Int) ≤ (t.length : Int) := by omega
  have HRL : Hid (r.length = j) := Lib.hid (HW.out.rl ⟨pc, a, _, r⟩ List.mem_cons_self)
  have hwl : ws.length ≤ 1000000000 := by have : ws.length + 1 + _ ≤ _ := hcnt; omega
  obtain ⟨g, cap, hlv, hg1, hg2⟩ := own_some HW.out.own (by show 0 < ws.length + 1; omega)
  have hAl : Al = some ⟨g, 0, none⟩ ∧ cl = cap := by cases hlv; exact ⟨rfl, rfl⟩
  obtain ⟨rfl, rfl⟩ := hAl
  have HWx : Hid (Pk.Wl wr (pb + 1) gs j L t (.slice (some ⟨g, 0, none⟩) (ws.length + 1) cl) (⟨pc, a, .slice Ar r.length cr, r⟩ :: ws) bs) := HW
  obtain ⟨k0, k1, k2⟩ := HWx.out.top
  have hcl : ws.length + 1 ≤ cl := by
    rcases HWx.out.own.2 with ⟨e, _⟩ | ⟨g', cap, cur, e, _, _, h3, _⟩
    · cases e
    · cases e; exact h3
  have hgn : ¬ g = gs := fun e => HWx.out.ne (by rw [← e]; rfl)
  have hgn2 : ¬ gs = g := fun e => hgn e.symm
  have hgp : ¬ g = pb := by omega
  have hgsp : ¬ gs = pb := by have := HWx.out.gs0; omega
  have hgsl : gs < wr.heap.size := (Array.getElem?_eq_some_iff.1 HWx.out.seen).1
  have HD1 : Hid ((Pk.dfs L t (Pk.rdS t.length bs) ((pc, a, r) :: ws.map Pk.Way.ent)).1 = R) := HD
  clear HD HW hlv
  have HSK : Hid (Pk.Wl (wr.alloc (.cells #[.int .i64 pc, .int .i64 (a : Int), .slice Ar r.length cr] 93)) (pb + 1) gs j L t (.slice (some ⟨g, 0, none⟩) ws.length cl) ws bs) := Lib.hid (HWx.out.pop.keep ((Below.refl _ _).alloc (Nat.le_refl _) _))
  have HBK : Hid (Below (pb + 1) wb (wr.alloc (.cells #[.int .i64 pc, .int .i64 (a : Int), .slice Ar r.length cr] 93))) := Lib.hid (HB.out.alloc (by omega) _)
  have hcnt2 : ws.length + 2 * Pk.free n (fun i => bs.getD i false) ≤ 2 * n + 1 := by have : ws.length + 1 + _ ≤ _ := hcnt; omega
  have HNN2 := Lib.hid HNN.out
  have HDS : Hid ((Pk.dfs L t (Pk.rdS t.length bs) (ws.map Pk.Way.ent)).1 = R) := Lib.hid (by rw [← HD1.out, Pk.dfs_out ef])
  rcases hr with hr | hr
  all_goals
    try have hr2 : ¬ pc < 0 := by omega
    go_wp2_with fail
    go_roundw
    case rel => exact ⟨ws, bs, ⟨_, _, rfl⟩, HSK, HBK, HDS, hcnt2⟩
    case measure => rw [HSK.out.left, HWx.out.left]; show 2 * _ + ws.length < 2 * _ + (ws.length + 1); omega
set_option linter.unusedVariables false in
set_option maxRecDepth 1000000 in
set_option maxHeartbeats 200000000 in
theorem walk_seen {W wb wr : World} {A Av : Option Addr} {cp cv : Nat} {L : List Rx.In} {t : List UInt8} {G k n j pb gs : Nat} {R : Option Pk.Row} {K : Act → World → Prop} {u6 u7 u12 u13 u14 u38 u39 u40 u41 u42 u43 u44 u45 u46 u47 u48 u49 u50 u51 u52 u53 u54 u55 u56 u57 u58 u59 u60 u61 u62 u63 u64 u65 u66 u67 u68 u69 u70 u71 u72 u73 u74 u75 u76 u77 u78 u79 u80 u81 u82 u83 u84 u85 u86 u87 u88 u89 u90 u91 u92 u93 u94 u95 u96 u97 u98 u99 u100 u101 u102 u103 u104 u105 u106 u107 u108 u109 u110 u111 u112 u113 u114 u115 u116 u117 u118 u119 u120 u121 u122 u123 u124 u125 u126 u127 u128 u129 u130 u131 u132 u133 u134 u135 u136 u137 u138 u139 u140 u141 u142 u143 u144 u145 u146 u147 u148 u149 u150 u151 u152 u153 u154 u155 u156 u157 u158 u159 u160 u161 u162 u163 u164 u165 u166 u167 u168 u169 u170 u171 u172 u173 u174 u175 u176 u177 u178 u179 u180 u181 u182 u183 u184 u185 u186 u187 u188 u189 u190 u191 u192 u193 u194 u195 u196 u197 u198 u199 u200 u201 u202 u203 u204 u205 u206 u207 u208 u209 u210 u211 u212 u213 u214 u215 u216 u217 u218 u219 u220 u221 u222 u223 u224 u21 u22 u23 u24 u25 : Value} {ws : List Pk.Way} {bs : List Bool} {Al : Option Addr} {cl a : Nat} {pc : Int} {v : Value} {r : Pk.Row} (hL : L.length ≤ 4096) (ht : t.length ≤ 100000) (hG : G ≤ 1024) (hk : k ≤ t.length) (hGI : (0 : Int) ≤ (G : Int)) (hGI2 : (G : Int) ≤ 1024) (hnb : n ≤ 4096 * 100001) (hnI : (L.length : Int) * ((t.length : Int) + 1) = (n : Int)) (hnw : IntKind.i64.wrap (n : Int) = (n : Int)) (hnwI : (n : Int) ≤ 409604096) (HNN : Hid (n = L.length * (t.length + 1))) (hlt : (t.length : Int) ≤ 100000) (HPR : Hid (∀ x ∈ L, x.p.length ≤ 1048576)) (HPB : Hid (pb = W.heap.size)) (HB0 : Hid (Below W.heap.size W wb)) (HP1 : Hid (Rd wb (fun i => i < W.heap.size) A (icells L))) (hsz : wb.heap.size = pb + 1) (hc1 : wb.cell? ⟨pb, 1, none⟩ = some (.slice A L.length cp)) (hc0 : wb.cell? ⟨pb, 0, none⟩ = some (.int .i64 (G : Int))) (hwI : (2 : Int) * (G : Int) + 2 = (j : Int)) (hw2 : 2 ≤ j) (hw4 : j ≤ 4096) (HW : Hid (Pk.Wl wr (pb + 1) gs j L t (.slice Al (List.length ((⟨pc, a, v, r⟩ : Pk.Way) :: ws)) cl) ((⟨pc, a, v, r⟩ : Pk.Way) :: ws) bs)) (HB : Hid (Below (pb + 1) wb wr)) (HD : Hid ((Pk.dfs L t (Pk.rdS t.length bs) (((⟨pc, a, v, r⟩ : Pk.Way) :: ws).map Pk.Way.ent)).1 = R)) (hcnt : List.length ((⟨pc, a, v, r⟩ : Pk.Way) :: ws) + 2 * Pk.free n (fun i => bs.getD i false) ≤ 2 * n + 1) {x : Rx.In} (ef : Pk.fetch L pc = some x) (hpc0 : 0 ≤ pc) (hpc1 : pc < (L.length : Int)) (hns : Pk.rdS t.length bs pc.toNat a = true) : Code.wp Try.prog Pk.wbody (Exit.then (fun a' w' => Pk.WI G A L cp t k pb Av cv j gs n wb R u21 u22 u23 u24 u25 a' w' ∧ Pk.Wmu gs L t a' w' < Pk.Wmu gs L t ⟨#[.agg #[.int .i64 (G : Int), .slice A L.length cp], .string ⟨t.toArray⟩, .int .i64 (k : Int), .pointer (some ⟨pb, 0, none⟩), undef, undef, u6, u7, .slice Av j cv, .int .i64 (j : Int), .slice (some ⟨gs, 0, none⟩) n n, .slice Al (List.length ((⟨pc, a, v, r⟩ : Pk.Way) :: ws)) cl, u12, u13, u14, .int .i64 (j : Int), .pointer (some ⟨pb, 0, none⟩), .int .i64 (G : Int), .int .i64 (2 * (G : Int)), .int .i64 (j : Int), .bool false, u21, u22, u23, u24, u25, .pointer (some ⟨pb, 1, none⟩), .slice A L.length cp, .int .i64 (L.length : Int), .string ⟨t.toArray⟩, .int .i64 (t.length : Int), .int .i64 ((t.length : Int) + 1), .int .i64 (n : Int), .slice (some ⟨gs, 0, none⟩) n n, .int .i64 (k : Int), .slice Av j cv, .agg #[.int .i64 0, .int .i64 (k : Int), .slice Av j cv], .slice (some ⟨gs + 1, 0, none⟩) 1 1, u38, u39, u40, u41, u42, u43, u44, u45, u46, u47, u48, u49, u50, u51, u52, u53, u54, u55, u56, u57, u58, u59, u60, u61, u62, u63, u64, u65, u66, u67, u68, u69, u70, u71, u72, u73, u74, u75, u76, u77, u78, u79, u80, u81, u82, u83, u84, u85, u86, u87, u88, u89, u90, u91, u92, u93, u94, u95, u96, u97, u98, u99, u100, u101, u102, u103, u104, u105, u106, u107, u108, u109, u110, u111, u112, u113, u114, u115, u116, u117, u118, u119, u120, u121, u122, u123, u124, u125, u126, u127, u128, u129, u130, u131, u132, u133, u134, u135, u136, u137, u138, u139, u140, u141, u142, u143, u144, u145, u146, u147, u148, u149, u150, u151, u152, u153, u154, u155, u156, u157, u158, u159, u160, u161, u162, u163, u164, u165, u166, u167, u168, u169, u170, u171, u172, u173, u174, u175, u176, u177, u178, u179, u180, u181, u182, u183, u184, u185, u186, u187, u188, u189, u190, u191, u192, u193, u194, u195, u196, u197, u198, u199, u200, u201, u202, u203, u204, u205, u206, u207, u208, u209, u210, u211, u212, u213, u214, u215, u216, u217, u218, u219, u220, u221, u222, u223, u224], []⟩ wr) (Exit.inBlock 2 (Exit.then K (bodyPost Try.prog Try.f27 (Pk.Walkd W R))))) ⟨#[.agg #[.int .i64 (G : Int), .slice A L.length cp], .string ⟨t.toArray⟩, .int .i64 (k : Int), .pointer (some ⟨pb, 0, none⟩), undef, undef, u6, u7, .slice Av j cv, .int .i64 (j : Int), .slice (some ⟨gs, 0, none⟩) n n, .slice Al (List.length ((⟨pc, a, v, r⟩ : Pk.Way) :: ws)) cl, u12, u13, u14, .int .i64 (j : Int), .pointer (some ⟨pb, 0, none⟩), .int .i64 (G : Int), .int .i64 (2 * (G : Int)), .int .i64 (j : Int), .bool false, u21, u22, u23, u24, u25, .pointer (some ⟨pb, 1, none⟩), .slice A L.length cp, .int .i64 (L.length : Int), .string ⟨t.toArray⟩, .int .i64 (t.length : Int), .int .i64 ((t.length : Int) + 1), .int .i64 (n : Int), .slice (some ⟨gs, 0, none⟩) n n, .int .i64 (k : Int), .slice Av j cv, .agg #[.int .i64 0, .int .i64 (k : Int), .slice Av j cv], .slice (some ⟨gs + 1, 0, none⟩) 1 1, u38, u39, u40, u41, u42, u43, u44, u45, u46, u47, u48, u49, u50, u51, u52, u53, u54, u55, u56, u57, u58, u59, u60, u61, u62, u63, u64, u65, u66, u67, u68, u69, u70, u71, u72, u73, u74, u75, u76, u77, u78, u79, u80, u81, u82, u83, u84, u85, u86, u87, u88, u89, u90, u91, u92, u93, u94, u95, u96, u97, u98, u99, u100, u101, u102, u103, u104, u105, u106, u107, u108, u109, u110, u111, u112, u113, u114, u115, u116, u117, u118, u119, u120, u121, u122, u123, u124, u125, u126, u127, u128, u129, u130, u131, u132, u133, u134, u135, u136, u137, u138, u139, u140, u141, u142, u143, u144, u145, u146, u147, u148, u149, u150, u151, u152, u153, u154, u155, u156, u157, u158, u159, u160, u161, u162, u163, u164, u165, u166, u167, u168, u169, u170, u171, u172, u173, u174, u175, u176, u177, u178, u179, u180, u181, u182, u183, u184, u185, u186, u187, u188, u189, u190, u191, u192, u193, u194, u195, u196, u197, u198, u199, u200, u201, u202, u203, u204, u205, u206, u207, u208, u209, u210, u211, u212, u213, u214, u215, u216, u217, u218, u219, u220, u221, u222, u223, u224], []⟩ wr := by
  obtain ⟨i0, hi0, hz0, hz1, hz2⟩ := info_parts Pk.int_info2
  have HI := Lib.hid hi0
  have HZ := Lib.hid (And.intro hz0 (And.intro hz1 hz2))
  clear hi0 hz0 hz1 hz2
  obtain ⟨i1, hi1, hy0, hy1, hy2⟩ := info_parts Pk.way_info
  have HI1 := Lib.hid hi1
  have HZ1 := Lib.hid (And.intro hy0 (And.intro hy1 hy2))
  clear hi1 hy0 hy1 hy2
  unfold Pk.WI Pk.Wmu
  conv => arg 2; whnf
  try dsimp only
  have e1 : wr.cell? ⟨pb, 1, none⟩ = some (.slice A L.length cp) := (HB.out.cell (p := ⟨pb, 1, none⟩) (by show pb < pb + 1; omega)).trans hc1
  have hsr := HB.out.size
  have hpr : pb < wr.heap.size := by omega
  obtain ⟨Ar, cr, hv, _⟩ := HW.out.rows ⟨pc, a, v, r⟩ List.mem_cons_self
  have hv : v = .slice Ar r.length cr := hv
  subst hv
  have hat : a ≤ t.length := HW.out.at_ ⟨pc, a, _, r⟩ List.mem_cons_self
  have hatI : (a : Int) ≤ (t.length : Int) := by omega
  have HRL : Hid (r.length = j) := Lib.hid (HW.out.rl ⟨pc, a, _, r⟩ List.mem_cons_self)
  have hwl : ws.length ≤ 1000000000 := by have : ws.length + 1 + _ ≤ _ := hcnt; omega
  obtain ⟨g, cap, hlv, hg1, hg2⟩ := own_some HW.out.own (by show 0 < ws.length + 1; omega)
  have hAl : Al = some ⟨g, 0, none⟩ ∧ cl = cap := by cases hlv; exact ⟨rfl, rfl⟩
  obtain ⟨rfl, rfl⟩ := hAl
  have HWx : Hid (Pk.Wl wr (pb + 1) gs j L t (.slice (some ⟨g, 0, none⟩) (ws.length + 1) cl) (⟨pc, a, .slice Ar r.length cr, r⟩ :: ws) bs) := HW
  obtain ⟨k0, k1, k2⟩ := HWx.out.top
  have hcl : ws.length + 1 ≤ cl := by
    rcases HWx.out.own.2 with ⟨e, _⟩ | ⟨g', cap, cur, e, _, _, h3, _⟩
    · cases e
    · cases e; exact h3
  have hgn : ¬ g = gs := fun e => HWx.out.ne (by rw [← e]; rfl)
  have hgn2 : ¬ gs = g := fun e => hgn e.symm
  have hgp : ¬ g = pb := by omega
  have hgsp : ¬ gs = pb := by have := HWx.out.gs0; omega
  have hgsl : gs < wr.heap.size := (Array.getElem?_eq_some_iff.1 HWx.out.seen).1
  have HD1 : Hid ((Pk.dfs L t (Pk.rdS t.length bs) ((pc, a, r) :: ws.map Pk.Way.ent)).1 = R) := HD
  clear HD HW hlv
  have HSK : Hid (Pk.Wl (wr.alloc (.cells #[.int .i64 pc, .int .i64 (a : Int), .slice Ar r.length cr] 93)) (pb + 1) gs j L t (.slice (some ⟨g, 0, none⟩) ws.length cl) ws bs) := Lib.hid (HWx.out.pop.keep ((Below.refl _ _).alloc (Nat.le_refl _) _))
  have HBK : Hid (Below (pb + 1) wb (wr.alloc (.cells #[.int .i64 pc, .int .i64 (a : Int), .slice Ar r.length cr] 93))) := Lib.hid (HB.out.alloc (by omega) _)
  have hcnt2 : ws.length + 2 * Pk.free n (fun i => bs.getD i false) ≤ 2 * n + 1 := by have : ws.length + 1 + _ ≤ _ := hcnt; omega
  have HNN2 := Lib.hid HNN.out
  obtain ⟨p, rfl⟩ : ∃ p : Nat, pc = (p : Int) := ⟨pc.toNat, by omega⟩
  have hp0 : ¬ (p : Int) < 0 := by omega
  have hp1 : ¬ (L.length : Int) ≤ (p : Int) := by omega
  have hpN : p < L.length := by omega
  obtain ⟨q, hq⟩ : ∃ q, q = p * (t.length + 1) := ⟨_, rfl⟩
  have hqI : (p : Int) * ((t.length : Int) + 1) = (q : Int) := by rw [hq]; simp
  have hqa : q + a < n := by rw [hq, HNN.out]; exact Pk.idx_lt hpN hat
  have hqaI : (q : Int) + (a : Int) < (n : Int) := by omega
  have hq0 : (0 : Int) ≤ (q : Int) := by omega
  have hqn : (q : Int) ≤ 409604096 := by omega
  have hbl : q + a < bs.length := by rw [HWx.out.len, ← HNN.out]; exact hqa
  obtain ⟨sc, sf⟩ := HWx.out.cell (q + a) hbl
  have hS : Pk.rdS t.length bs p a = bs.getD (q + a) false := by
    unfold Pk.rdS
    rw [← hq]
    simp [hat]
  have hgd : bs.getD (q + a) false = bs[q + a] := by rw [List.getD_eq_getElem?_getD, List.getElem?_eq_getElem hbl]; rfl
  have hse : bs[q + a] = true := by rw [← hgd, ← hS]; simpa using hns
  have HDS : Hid ((Pk.dfs L t (Pk.rdS t.length bs) (ws.map Pk.Way.ent)).1 = R) := Lib.hid (by rw [← HD1.out, Pk.dfs_seen (.inl (by show Pk.rdS t.length bs (Int.toNat p) a = true; rw [Int.toNat_natCast, hS, hgd]; exact hse))])
  rw [hse] at sc
  clear hq hS hgd
  go_wp2_with fail
  go_roundw
  case rel => exact ⟨ws, bs, ⟨_, _, rfl⟩, HSK, HBK, HDS, hcnt2⟩
  case measure => rw [HSK.out.left, HWx.out.left]; show 2 * _ + ws.length < 2 * _ + (ws.length + 1); omega
set_option linter.unusedVariables false in
set_option maxRecDepth 1000000 in
set_option maxHeartbeats 200000000 in
theorem walk_op2 {W wb wr : World} {A Av : Option Addr} {cp cv : Nat} {L : List Rx.In} {t : List UInt8} {G k n j pb gs : Nat} {R : Option Pk.Row} {K : Act → World → Prop} {u6 u7 u12 u13 u14 u38 u39 u40 u41 u42 u43 u44 u45 u46 u47 u48 u49 u50 u51 u52 u53 u54 u55 u56 u57 u58 u59 u60 u61 u62 u63 u64 u65 u66 u67 u68 u69 u70 u71 u72 u73 u74 u75 u76 u77 u78 u79 u80 u81 u82 u83 u84 u85 u86 u87 u88 u89 u90 u91 u92 u93 u94 u95 u96 u97 u98 u99 u100 u101 u102 u103 u104 u105 u106 u107 u108 u109 u110 u111 u112 u113 u114 u115 u116 u117 u118 u119 u120 u121 u122 u123 u124 u125 u126 u127 u128 u129 u130 u131 u132 u133 u134 u135 u136 u137 u138 u139 u140 u141 u142 u143 u144 u145 u146 u147 u148 u149 u150 u151 u152 u153 u154 u155 u156 u157 u158 u159 u160 u161 u162 u163 u164 u165 u166 u167 u168 u169 u170 u171 u172 u173 u174 u175 u176 u177 u178 u179 u180 u181 u182 u183 u184 u185 u186 u187 u188 u189 u190 u191 u192 u193 u194 u195 u196 u197 u198 u199 u200 u201 u202 u203 u204 u205 u206 u207 u208 u209 u210 u211 u212 u213 u214 u215 u216 u217 u218 u219 u220 u221 u222 u223 u224 u21 u22 u23 u24 u25 : Value} {ws : List Pk.Way} {bs : List Bool} {Al : Option Addr} {cl a : Nat} {pc : Int} {v : Value} {r : Pk.Row} (hL : L.length ≤ 4096) (ht : t.length ≤ 100000) (hG : G ≤ 1024) (hk : k ≤ t.length) (hGI : (0 : Int) ≤ (G : Int)) (hGI2 : (G : Int) ≤ 1024) (hnb : n ≤ 4096 * 100001) (hnI : (L.length : Int) * ((t.length : Int) + 1) = (n : Int)) (hnw : IntKind.i64.wrap (n : Int) = (n : Int)) (hnwI : (n : Int) ≤ 409604096) (HNN : Hid (n = L.length * (t.length + 1))) (hlt : (t.length : Int) ≤ 100000) (HPR : Hid (∀ x ∈ L, x.p.length ≤ 1048576)) (HPB : Hid (pb = W.heap.size)) (HB0 : Hid (Below W.heap.size W wb)) (HP1 : Hid (Rd wb (fun i => i < W.heap.size) A (icells L))) (hsz : wb.heap.size = pb + 1) (hc1 : wb.cell? ⟨pb, 1, none⟩ = some (.slice A L.length cp)) (hc0 : wb.cell? ⟨pb, 0, none⟩ = some (.int .i64 (G : Int))) (hwI : (2 : Int) * (G : Int) + 2 = (j : Int)) (hw2 : 2 ≤ j) (hw4 : j ≤ 4096) (HW : Hid (Pk.Wl wr (pb + 1) gs j L t (.slice Al (List.length ((⟨pc, a, v, r⟩ : Pk.Way) :: ws)) cl) ((⟨pc, a, v, r⟩ : Pk.Way) :: ws) bs)) (HB : Hid (Below (pb + 1) wb wr)) (HD : Hid ((Pk.dfs L t (Pk.rdS t.length bs) (((⟨pc, a, v, r⟩ : Pk.Way) :: ws).map Pk.Way.ent)).1 = R)) (hcnt : List.length ((⟨pc, a, v, r⟩ : Pk.Way) :: ws) + 2 * Pk.free n (fun i => bs.getD i false) ≤ 2 * n + 1) {x : Rx.In} (ef : Pk.fetch L pc = some x) (hpc0 : 0 ≤ pc) (hpc1 : pc < (L.length : Int)) (hns : Pk.rdS t.length bs pc.toNat a = false) (hop : x.op = 2) : Code.wp Try.prog Pk.wbody (Exit.then (fun a' w' => Pk.WI G A L cp t k pb Av cv j gs n wb R u21 u22 u23 u24 u25 a' w' ∧ Pk.Wmu gs L t a' w' < Pk.Wmu gs L t ⟨#[.agg #[.int .i64 (G : Int), .slice A L.length cp], .string ⟨t.toArray⟩, .int .i64 (k : Int), .pointer (some ⟨pb, 0, none⟩), undef, undef, u6, u7, .slice Av j cv, .int .i64 (j : Int), .slice (some ⟨gs, 0, none⟩) n n, .slice Al (List.length ((⟨pc, a, v, r⟩ : Pk.Way) :: ws)) cl, u12, u13, u14, .int .i64 (j : Int), .pointer (some ⟨pb, 0, none⟩), .int .i64 (G : Int), .int .i64 (2 * (G : Int)), .int .i64 (j : Int), .bool false, u21, u22, u23, u24, u25, .pointer (some ⟨pb, 1, none⟩), .slice A L.length cp, .int .i64 (L.length : Int), .string ⟨t.toArray⟩, .int .i64 (t.length : Int), .int .i64 ((t.length : Int) + 1), .int .i64 (n : Int), .slice (some ⟨gs, 0, none⟩) n n, .int .i64 (k : Int), .slice Av j cv, .agg #[.int .i64 0, .int .i64 (k : Int), .slice Av j cv], .slice (some ⟨gs + 1, 0, none⟩) 1 1, u38, u39, u40, u41, u42, u43, u44, u45, u46, u47, u48, u49, u50, u51, u52, u53, u54, u55, u56, u57, u58, u59, u60, u61, u62, u63, u64, u65, u66, u67, u68, u69, u70, u71, u72, u73, u74, u75, u76, u77, u78, u79, u80, u81, u82, u83, u84, u85, u86, u87, u88, u89, u90, u91, u92, u93, u94, u95, u96, u97, u98, u99, u100, u101, u102, u103, u104, u105, u106, u107, u108, u109, u110, u111, u112, u113, u114, u115, u116, u117, u118, u119, u120, u121, u122, u123, u124, u125, u126, u127, u128, u129, u130, u131, u132, u133, u134, u135, u136, u137, u138, u139, u140, u141, u142, u143, u144, u145, u146, u147, u148, u149, u150, u151, u152, u153, u154, u155, u156, u157, u158, u159, u160, u161, u162, u163, u164, u165, u166, u167, u168, u169, u170, u171, u172, u173, u174, u175, u176, u177, u178, u179, u180, u181, u182, u183, u184, u185, u186, u187, u188, u189, u190, u191, u192, u193, u194, u195, u196, u197, u198, u199, u200, u201, u202, u203, u204, u205, u206, u207, u208, u209, u210, u211, u212, u213, u214, u215, u216, u217, u218, u219, u220, u221, u222, u223, u224], []⟩ wr) (Exit.inBlock 2 (Exit.then K (bodyPost Try.prog Try.f27 (Pk.Walkd W R))))) ⟨#[.agg #[.int .i64 (G : Int), .slice A L.length cp], .string ⟨t.toArray⟩, .int .i64 (k : Int), .pointer (some ⟨pb, 0, none⟩), undef, undef, u6, u7, .slice Av j cv, .int .i64 (j : Int), .slice (some ⟨gs, 0, none⟩) n n, .slice Al (List.length ((⟨pc, a, v, r⟩ : Pk.Way) :: ws)) cl, u12, u13, u14, .int .i64 (j : Int), .pointer (some ⟨pb, 0, none⟩), .int .i64 (G : Int), .int .i64 (2 * (G : Int)), .int .i64 (j : Int), .bool false, u21, u22, u23, u24, u25, .pointer (some ⟨pb, 1, none⟩), .slice A L.length cp, .int .i64 (L.length : Int), .string ⟨t.toArray⟩, .int .i64 (t.length : Int), .int .i64 ((t.length : Int) + 1), .int .i64 (n : Int), .slice (some ⟨gs, 0, none⟩) n n, .int .i64 (k : Int), .slice Av j cv, .agg #[.int .i64 0, .int .i64 (k : Int), .slice Av j cv], .slice (some ⟨gs + 1, 0, none⟩) 1 1, u38, u39, u40, u41, u42, u43, u44, u45, u46, u47, u48, u49, u50, u51, u52, u53, u54, u55, u56, u57, u58, u59, u60, u61, u62, u63, u64, u65, u66, u67, u68, u69, u70, u71, u72, u73, u74, u75, u76, u77, u78, u79, u80, u81, u82, u83, u84, u85, u86, u87, u88, u89, u90, u91, u92, u93, u94, u95, u96, u97, u98, u99, u100, u101, u102, u103, u104, u105, u106, u107, u108, u109, u110, u111, u112, u113, u114, u115, u116, u117, u118, u119, u120, u121, u122, u123, u124, u125, u126, u127, u128, u129, u130, u131, u132, u133, u134, u135, u136, u137, u138, u139, u140, u141, u142, u143, u144, u145, u146, u147, u148, u149, u150, u151, u152, u153, u154, u155, u156, u157, u158, u159, u160, u161, u162, u163, u164, u165, u166, u167, u168, u169, u170, u171, u172, u173, u174, u175, u176, u177, u178, u179, u180, u181, u182, u183, u184, u185, u186, u187, u188, u189, u190, u191, u192, u193, u194, u195, u196, u197, u198, u199, u200, u201, u202, u203, u204, u205, u206, u207, u208, u209, u210, u211, u212, u213, u214, u215, u216, u217, u218, u219, u220, u221, u222, u223, u224], []⟩ wr := by
  obtain ⟨i0, hi0, hz0, hz1, hz2⟩ := info_parts Pk.int_info2
  have HI := Lib.hid hi0
  have HZ := Lib.hid (And.intro hz0 (And.intro hz1 hz2))
  clear hi0 hz0 hz1 hz2
  obtain ⟨i1, hi1, hy0, hy1, hy2⟩ := info_parts Pk.way_info
  have HI1 := Lib.hid hi1
  have HZ1 := Lib.hid (And.intro hy0 (And.intro hy1 hy2))
  clear hi1 hy0 hy1 hy2
  unfold Pk.WI Pk.Wmu
  conv => arg 2; whnf
  try dsimp only
  have e1 : wr.cell? ⟨pb, 1, none⟩ = some (.slice A L.length cp) := (HB.out.cell (p := ⟨pb, 1, none⟩) (by show pb < pb + 1; omega)).trans hc1
  have hsr := HB.out.size
  have hpr : pb < wr.heap.size := by omega
  obtain ⟨Ar, cr, hv, _⟩ := HW.out.rows ⟨pc, a, v, r⟩ List.mem_cons_self
  have hv : v = .slice Ar r.length cr := hv
  subst hv
  have hat : a ≤ t.length := HW.out.at_ ⟨pc, a, _, r⟩ List.mem_cons_self
  have hatI : (a : Int) ≤ (t.length : Int) := by omega
  have HRL : Hid (r.length = j) := Lib.hid (HW.out.rl ⟨pc, a, _, r⟩ List.mem_cons_self)
  have hwl : ws.length ≤ 1000000000 := by have : ws.length + 1 + _ ≤ _ := hcnt; omega
  obtain ⟨g, cap, hlv, hg1, hg2⟩ := own_some HW.out.own (by show 0 < ws.length + 1; omega)
  have hAl : Al = some ⟨g, 0, none⟩ ∧ cl = cap := by cases hlv; exact ⟨rfl, rfl⟩
  obtain ⟨rfl, rfl⟩ := hAl
  have HWx : Hid (Pk.Wl wr (pb + 1) gs j L t (.slice (some ⟨g, 0, none⟩) (ws.length + 1) cl) (⟨pc, a, .slice Ar r.length cr, r⟩ :: ws) bs) := HW
  obtain ⟨k0, k1, k2⟩ := HWx.out.top
  have hcl : ws.length + 1 ≤ cl := by
    rcases HWx.out.own.2 with ⟨e, _⟩ | ⟨g', cap, cur, e, _, _, h3, _⟩
    · cases e
    · cases e; exact h3
  have hgn : ¬ g = gs := fun e => HWx.out.ne (by rw [← e]; rfl)
  have hgn2 : ¬ gs = g := fun e => hgn e.symm
  have hgp : ¬ g = pb := by omega
  have hgsp : ¬ gs = pb := by have := HWx.out.gs0; omega
  have hgsl : gs < wr.heap.size := (Array.getElem?_eq_some_iff.1 HWx.out.seen).1
  have HD1 : Hid ((Pk.dfs L t (Pk.rdS t.length bs) ((pc, a, r) :: ws.map Pk.Way.ent)).1 = R) := HD
  clear HD HW hlv
  have HSK : Hid (Pk.Wl (wr.alloc (.cells #[.int .i64 pc, .int .i64 (a : Int), .slice Ar r.length cr] 93)) (pb + 1) gs j L t (.slice (some ⟨g, 0, none⟩) ws.length cl) ws bs) := Lib.hid (HWx.out.pop.keep ((Below.refl _ _).alloc (Nat.le_refl _) _))
  have HBK : Hid (Below (pb + 1) wb (wr.alloc (.cells #[.int .i64 pc, .int .i64 (a : Int), .slice Ar r.length cr] 93))) := Lib.hid (HB.out.alloc (by omega) _)
  have hcnt2 : ws.length + 2 * Pk.free n (fun i => bs.getD i false) ≤ 2 * n + 1 := by have : ws.length + 1 + _ ≤ _ := hcnt; omega
  have HNN2 := Lib.hid HNN.out
  obtain ⟨p, rfl⟩ : ∃ p : Nat, pc = (p : Int) := ⟨pc.toNat, by omega⟩
  have hp0 : ¬ (p : Int) < 0 := by omega
  have hp1 : ¬ (L.length : Int) ≤ (p : Int) := by omega
  have hpN : p < L.length := by omega
  obtain ⟨q, hq⟩ : ∃ q, q = p * (t.length + 1) := ⟨_, rfl⟩
  have hqI : (p : Int) * ((t.length : Int) + 1) = (q : Int) := by rw [hq]; simp
  have hqa : q + a < n := by rw [hq, HNN.out]; exact Pk.idx_lt hpN hat
  have hqaI : (q : Int) + (a : Int) < (n : Int) := by omega
  have hq0 : (0 : Int) ≤ (q : Int) := by omega
  have hqn : (q : Int) ≤ 409604096 := by omega
  have hbl : q + a < bs.length := by rw [HWx.out.len, ← HNN.out]; exact hqa
  obtain ⟨sc, sf⟩ := HWx.out.cell (q + a) hbl
  have hS : Pk.rdS t.length bs p a = bs.getD (q + a) false := by
    unfold Pk.rdS
    rw [← hq]
    simp [hat]
  have hgd : bs.getD (q + a) false = bs[q + a] := by rw [List.getD_eq_getElem?_getD, List.getElem?_eq_getElem hbl]; rfl
  have hse : bs[q + a] = false := by rw [← hgd, ← hS]; simpa using hns
  have hsf : Pk.rdS t.length bs p a = false := by rw [hS, hgd]; exact hse
  have hact := Pk.dfs_act (L := L) (t := t) (S := Pk.rdS t.length bs) (h := (p : Int)) (k := a) (r := r) (l := ws.map Pk.Way.ent) ef (by rw [Int.toNat_natCast]; exact hsf) hat
  rw [Int.toNat_natCast, show Pk.see (Pk.rdS t.length bs) p a = Pk.rdS t.length (bs.set (q + a) true) by rw [hq, Pk.rdS_set _ _ _ _ hat (by rw [← hq]; exact hbl)]] at hact
  have HACT := Lib.hid hact
  have HLS := Lib.hid (Pk.left_set n bs (q + a) hqa hbl (by rw [hgd]; exact hse))
  rw [hse] at sc
  have hPx : x.p.length ≤ 1048576 := HPR.out x (by have := (Pk.fetch_some ef).2.2; exact List.mem_of_getElem? this)
  obtain ⟨ib, io, hA, hil, i0', i1', i2', i3', hig⟩ := Pk.prog_cells2 HP1.out ef
  have hA2 : A = some ⟨ib, io, none⟩ := hA
  have hib : ib < pb := by have := HPB.out; omega
  have j0 : wr.cell? ⟨ib, io + p * 4, none⟩ = some (.int .i64 x.op) := (HB.out.cell (p := ⟨ib, io + p * 4, none⟩) (by show ib < pb + 1; omega)).trans (by simpa using i0')
  have j1 : wr.cell? ⟨ib, io + p * 4 + 1, none⟩ = some (.int .i64 x.x) := (HB.out.cell (p := ⟨ib, io + p * 4 + 1, none⟩) (by show ib < pb + 1; omega)).trans (by simpa using i1')
  have j2 : wr.cell? ⟨ib, io + p * 4 + 2, none⟩ = some (.int .i64 x.y) := (HB.out.cell (p := ⟨ib, io + p * 4 + 2, none⟩) (by show ib < pb + 1; omega)).trans (by simpa using i2')
  have j3 : wr.cell? ⟨ib, io + p * 4 + 3, none⟩ = some (.string ⟨x.p.toArray⟩) := (HB.out.cell (p := ⟨ib, io + p * 4 + 3, none⟩) (by show ib < pb + 1; omega)).trans (by simpa using i3')
  have hibg : ¬ gs = ib := by have := HWx.out.gs0; omega
  have hibr : ib < wr.heap.size := by omega
  clear hA
  subst hA2
  have hpw : IntKind.i64.wrap ((p : Int) + 1) = (p : Int) + 1 := by rw [IntKind.wrap_i64]; omega
  have haw : IntKind.i64.wrap ((a : Int) + 1) = (a : Int) + 1 := by rw [IntKind.wrap_i64]; omega
  clear i0' i1' i2' i3' hact hS hgd hsf hq HSK HBK hig
  obtain ⟨xop, xx, xy, xp⟩ := x
  have hop : xop = 2 := hop
  subst hop
  go_upto_region 14 with fail
  have HV : Hid (Pk.act t a ⟨2, xx, xy, xp⟩ (p : Int) r = .go [(xx, r), (xy, r)]) := Lib.hid (by simp [Pk.act])
  have HF2 : Hid (Pk.Wl (((wr.setCell ⟨gs, q + a, none⟩ (.bool true)).alloc (.cells #[.int .i64 (p : Int), .int .i64 (a : Int), .slice Ar r.length cr] 93)).alloc (.cells #[.int .i64 2, .int .i64 xx, .int .i64 xy, .string ⟨xp.toArray⟩] 57)) (pb + 1) gs j L t (.slice (some ⟨g, 0, none⟩) (ws.length + 1) cl) (⟨(p : Int), a, .slice Ar r.length cr, r⟩ :: ws) (bs.set (q + a) true)) := Lib.hid (((HWx.out.marked (q + a)).keep ((Below.refl _ _).alloc (Nat.le_refl _) _)).keep ((Below.refl _ _).alloc (Nat.le_refl _) _))
  have HB2 : Hid (Below (pb + 1) wb (((wr.setCell ⟨gs, q + a, none⟩ (.bool true)).alloc (.cells #[.int .i64 (p : Int), .int .i64 (a : Int), .slice Ar r.length cr] 93)).alloc (.cells #[.int .i64 2, .int .i64 xx, .int .i64 xy, .string ⟨xp.toArray⟩] 57))) := Lib.hid (((HB.out.setCell (by have := HWx.out.gs0; exact this) _).alloc (by simp [World.setCell]; omega) _).alloc (by simp [World.setCell]; omega) _)
  have hcnt3 : ws.length + 2 * Pk.free n (fun i => (bs.set (q + a) true).getD i false) + 2 ≤ 2 * n + 1 := by have := HLS.out; omega
  have hROW : Rd (((wr.setCell ⟨gs, q + a, none⟩ (.bool true)).alloc (.cells #[.int .i64 (p : Int), .int .i64 (a : Int), .slice Ar r.length cr] 93)).alloc (.cells #[.int .i64 2, .int .i64 xx, .int .i64 xy, .string ⟨xp.toArray⟩] 57)) (fun i => pb + 1 ≤ i ∧ i ≠ gs ∧ (Value.slice (some ⟨g, 0, none⟩) ws.length cl).ownBlock ≠ some i) Ar (iv r) := by
    obtain ⟨A', c', e, hr⟩ := HF2.out.rows _ List.mem_cons_self
    cases e
    exact hr
  have HNEW : Hid (∀ x ∈ ([⟨xy, a, .slice Ar r.length cr, r⟩, ⟨xx, a, .slice Ar r.length cr, r⟩] : List Pk.Way), (∃ A c, x.v = .slice A x.r.length c ∧ Rd (((wr.setCell ⟨gs, q + a, none⟩ (.bool true)).alloc (.cells #[.int .i64 (p : Int), .int .i64 (a : Int), .slice Ar r.length cr] 93)).alloc (.cells #[.int .i64 2, .int .i64 xx, .int .i64 xy, .string ⟨xp.toArray⟩] 57)) (fun i => pb + 1 ≤ i ∧ i ≠ gs ∧ (Value.slice (some ⟨g, 0, none⟩) ws.length cl).ownBlock ≠ some i) A (iv x.r)) ∧ x.at_ ≤ t.length ∧ x.r.length = j) := Lib.hid fun x hx => by
    simp at hx
    rcases hx with rfl | rfl
    all_goals exact ⟨⟨Ar, cr, rfl, hROW⟩, by first | exact hat | (show a + 1 ≤ t.length; omega), HRL.out⟩
  have HOA : Hid (((((wr.setCell ⟨gs, q + a, none⟩ (.bool true)).alloc (.cells #[.int .i64 (p : Int), .int .i64 (a : Int), .slice Ar r.length cr] 93)).alloc (.cells #[.int .i64 2, .int .i64 xx, .int .i64 xy, .string ⟨xp.toArray⟩] 57)).alloc (.cells #[.int .i64 xy, .int .i64 (a : Int), .slice Ar r.length cr, .int .i64 xx, .int .i64 (a : Int), .slice Ar r.length cr] 93)).ownsRow (pb + 1) 93 3 (.slice (some ⟨g, 0, none⟩) ws.length cl) ws.length (Pk.wcells ws.reverse)) := Lib.hid (HF2.out.pop.own.alloc _)
  have HRD : Hid (Rd ((((wr.setCell ⟨gs, q + a, none⟩ (.bool true)).alloc (.cells #[.int .i64 (p : Int), .int .i64 (a : Int), .slice Ar r.length cr] 93)).alloc (.cells #[.int .i64 2, .int .i64 xx, .int .i64 xy, .string ⟨xp.toArray⟩] 57)).alloc (.cells #[.int .i64 xy, .int .i64 (a : Int), .slice Ar r.length cr, .int .i64 xx, .int .i64 (a : Int), .slice Ar r.length cr] 93)) (fun b => b = wr.heap.size + 1 + 1) (some ⟨wr.heap.size + 1 + 1, 0, none⟩) [.int .i64 xy, .int .i64 (a : Int), .slice Ar r.length cr, .int .i64 xx, .int .i64 (a : Int), .slice Ar r.length cr]) := Lib.hid (Rd.fresh (((wr.setCell ⟨gs, q + a, none⟩ (.bool true)).alloc (.cells #[.int .i64 (p : Int), .int .i64 (a : Int), .slice Ar r.length cr] 93)).alloc (.cells #[.int .i64 2, .int .i64 xx, .int .i64 xy, .string ⟨xp.toArray⟩] 57)) [.int .i64 xy, .int .i64 (a : Int), .slice Ar r.length cr, .int .i64 xx, .int .i64 (a : Int), .slice Ar r.length cr] 93 _ (by simp [World.setCell]))
  go_wp2_with (at_builtin; go_must (refine wpList_app _ rfl (.tmp 130) (.tmp 145) 94 rfl (pb + 1) 93 i1 _ 3 40 Try.underlying94 HI1.out HZ1.out.1 HZ1.out.2.1 HZ1.out.2.2 rfl (by decide) (.slice (some ⟨g, 0, none⟩) ws.length cl) ws.length (Pk.wcells ws.reverse) (by simp [Act.eval]) HOA.out (fun b => b = wr.heap.size + 1 + 1) (some ⟨wr.heap.size + 1 + 1, 0, none⟩) 2 2 [.int .i64 xy, .int .i64 (a : Int), .slice Ar r.length cr, .int .i64 xx, .int .i64 (a : Int), .slice Ar r.length cr] (by simp [Act.eval]) (by simp) HRD.out (by intro u hu; simp at hu; rcases hu with rfl | rfl | rfl | rfl | rfl | rfl <;> rfl) (by unfold maxLen; omega) (by omega) (by simp [World.setCell]; omega) ?_; intro v2 w2 hown2 hg2 hat2 hnil2; have HPU := Lib.hid (Pk.Wl.push HF2.out.pop ((Below.refl _ _).alloc (Nat.le_refl _) (.cells #[.int .i64 xy, .int .i64 (a : Int), .slice Ar r.length cr, .int .i64 xx, .int .i64 (a : Int), .slice Ar r.length cr] 93)) (new := [⟨xy, a, .slice Ar r.length cr, r⟩, ⟨xx, a, .slice Ar r.length cr, r⟩]) hown2 hg2 hat2 HNEW.out); have HBP : Hid (Below (pb + 1) wb w2) := Lib.hid ((HB2.out.alloc (by simp [World.setCell]; omega) (.cells #[.int .i64 xy, .int .i64 (a : Int), .slice Ar r.length cr, .int .i64 xx, .int .i64 (a : Int), .slice Ar r.length cr] 93)).trans ⟨hg2.os, hg2.tape, hg2.output, hg2.size, fun b hb => hg2.block b (by simp [World.setCell]; omega) (fun e => by have := (World.ownsRow.lt HOA.out b e.symm).1; omega)⟩); obtain ⟨A2, c2, rfl⟩ := own_form hown2; clear hown2 hg2 hat2 hnil2))
  go_roundw
  case rel => exact ⟨([⟨xy, a, .slice Ar r.length cr, r⟩, ⟨xx, a, .slice Ar r.length cr, r⟩] : List Pk.Way).reverse ++ ws, bs.set (q + a) true, ⟨A2, c2, rfl⟩, HPU, HBP, Lib.hid (by rw [← HD1.out, HACT.out, HV.out]; rfl), by show ws.length + 2 + _ ≤ _; omega⟩
  case measure => rw [HPU.out.left, HWx.out.left, ← HNN.out]; show 2 * _ + (ws.length + 2) < 2 * _ + (ws.length + 1); have := HLS.out; omega
set_option linter.unusedVariables false in
set_option maxRecDepth 1000000 in
set_option maxHeartbeats 200000000 in
theorem walk_op3 {W wb wr : World} {A Av : Option Addr} {cp cv : Nat} {L : List Rx.In} {t : List UInt8} {G k n j pb gs : Nat} {R : Option Pk.Row} {K : Act → World → Prop} {u6 u7 u12 u13 u14 u38 u39 u40 u41 u42 u43 u44 u45 u46 u47 u48 u49 u50 u51 u52 u53 u54 u55 u56 u57 u58 u59 u60 u61 u62 u63 u64 u65 u66 u67 u68 u69 u70 u71 u72 u73 u74 u75 u76 u77 u78 u79 u80 u81 u82 u83 u84 u85 u86 u87 u88 u89 u90 u91 u92 u93 u94 u95 u96 u97 u98 u99 u100 u101 u102 u103 u104 u105 u106 u107 u108 u109 u110 u111 u112 u113 u114 u115 u116 u117 u118 u119 u120 u121 u122 u123 u124 u125 u126 u127 u128 u129 u130 u131 u132 u133 u134 u135 u136 u137 u138 u139 u140 u141 u142 u143 u144 u145 u146 u147 u148 u149 u150 u151 u152 u153 u154 u155 u156 u157 u158 u159 u160 u161 u162 u163 u164 u165 u166 u167 u168 u169 u170 u171 u172 u173 u174 u175 u176 u177 u178 u179 u180 u181 u182 u183 u184 u185 u186 u187 u188 u189 u190 u191 u192 u193 u194 u195 u196 u197 u198 u199 u200 u201 u202 u203 u204 u205 u206 u207 u208 u209 u210 u211 u212 u213 u214 u215 u216 u217 u218 u219 u220 u221 u222 u223 u224 u21 u22 u23 u24 u25 : Value} {ws : List Pk.Way} {bs : List Bool} {Al : Option Addr} {cl a : Nat} {pc : Int} {v : Value} {r : Pk.Row} (hL : L.length ≤ 4096) (ht : t.length ≤ 100000) (hG : G ≤ 1024) (hk : k ≤ t.length) (hGI : (0 : Int) ≤ (G : Int)) (hGI2 : (G : Int) ≤ 1024) (hnb : n ≤ 4096 * 100001) (hnI : (L.length : Int) * ((t.length : Int) + 1) = (n : Int)) (hnw : IntKind.i64.wrap (n : Int) = (n : Int)) (hnwI : (n : Int) ≤ 409604096) (HNN : Hid (n = L.length * (t.length + 1))) (hlt : (t.length : Int) ≤ 100000) (HPR : Hid (∀ x ∈ L, x.p.length ≤ 1048576)) (HPB : Hid (pb = W.heap.size)) (HB0 : Hid (Below W.heap.size W wb)) (HP1 : Hid (Rd wb (fun i => i < W.heap.size) A (icells L))) (hsz : wb.heap.size = pb + 1) (hc1 : wb.cell? ⟨pb, 1, none⟩ = some (.slice A L.length cp)) (hc0 : wb.cell? ⟨pb, 0, none⟩ = some (.int .i64 (G : Int))) (hwI : (2 : Int) * (G : Int) + 2 = (j : Int)) (hw2 : 2 ≤ j) (hw4 : j ≤ 4096) (HW : Hid (Pk.Wl wr (pb + 1) gs j L t (.slice Al (List.length ((⟨pc, a, v, r⟩ : Pk.Way) :: ws)) cl) ((⟨pc, a, v, r⟩ : Pk.Way) :: ws) bs)) (HB : Hid (Below (pb + 1) wb wr)) (HD : Hid ((Pk.dfs L t (Pk.rdS t.length bs) (((⟨pc, a, v, r⟩ : Pk.Way) :: ws).map Pk.Way.ent)).1 = R)) (hcnt : List.length ((⟨pc, a, v, r⟩ : Pk.Way) :: ws) + 2 * Pk.free n (fun i => bs.getD i false) ≤ 2 * n + 1) {x : Rx.In} (ef : Pk.fetch L pc = some x) (hpc0 : 0 ≤ pc) (hpc1 : pc < (L.length : Int)) (hns : Pk.rdS t.length bs pc.toNat a = false) (hop : x.op = 3) : Code.wp Try.prog Pk.wbody (Exit.then (fun a' w' => Pk.WI G A L cp t k pb Av cv j gs n wb R u21 u22 u23 u24 u25 a' w' ∧ Pk.Wmu gs L t a' w' < Pk.Wmu gs L t ⟨#[.agg #[.int .i64 (G : Int), .slice A L.length cp], .string ⟨t.toArray⟩, .int .i64 (k : Int), .pointer (some ⟨pb, 0, none⟩), undef, undef, u6, u7, .slice Av j cv, .int .i64 (j : Int), .slice (some ⟨gs, 0, none⟩) n n, .slice Al (List.length ((⟨pc, a, v, r⟩ : Pk.Way) :: ws)) cl, u12, u13, u14, .int .i64 (j : Int), .pointer (some ⟨pb, 0, none⟩), .int .i64 (G : Int), .int .i64 (2 * (G : Int)), .int .i64 (j : Int), .bool false, u21, u22, u23, u24, u25, .pointer (some ⟨pb, 1, none⟩), .slice A L.length cp, .int .i64 (L.length : Int), .string ⟨t.toArray⟩, .int .i64 (t.length : Int), .int .i64 ((t.length : Int) + 1), .int .i64 (n : Int), .slice (some ⟨gs, 0, none⟩) n n, .int .i64 (k : Int), .slice Av j cv, .agg #[.int .i64 0, .int .i64 (k : Int), .slice Av j cv], .slice (some ⟨gs + 1, 0, none⟩) 1 1, u38, u39, u40, u41, u42, u43, u44, u45, u46, u47, u48, u49, u50, u51, u52, u53, u54, u55, u56, u57, u58, u59, u60, u61, u62, u63, u64, u65, u66, u67, u68, u69, u70, u71, u72, u73, u74, u75, u76, u77, u78, u79, u80, u81, u82, u83, u84, u85, u86, u87, u88, u89, u90, u91, u92, u93, u94, u95, u96, u97, u98, u99, u100, u101, u102, u103, u104, u105, u106, u107, u108, u109, u110, u111, u112, u113, u114, u115, u116, u117, u118, u119, u120, u121, u122, u123, u124, u125, u126, u127, u128, u129, u130, u131, u132, u133, u134, u135, u136, u137, u138, u139, u140, u141, u142, u143, u144, u145, u146, u147, u148, u149, u150, u151, u152, u153, u154, u155, u156, u157, u158, u159, u160, u161, u162, u163, u164, u165, u166, u167, u168, u169, u170, u171, u172, u173, u174, u175, u176, u177, u178, u179, u180, u181, u182, u183, u184, u185, u186, u187, u188, u189, u190, u191, u192, u193, u194, u195, u196, u197, u198, u199, u200, u201, u202, u203, u204, u205, u206, u207, u208, u209, u210, u211, u212, u213, u214, u215, u216, u217, u218, u219, u220, u221, u222, u223, u224], []⟩ wr) (Exit.inBlock 2 (Exit.then K (bodyPost Try.prog Try.f27 (Pk.Walkd W R))))) ⟨#[.agg #[.int .i64 (G : Int), .slice A L.length cp], .string ⟨t.toArray⟩, .int .i64 (k : Int), .pointer (some ⟨pb, 0, none⟩), undef, undef, u6, u7, .slice Av j cv, .int .i64 (j : Int), .slice (some ⟨gs, 0, none⟩) n n, .slice Al (List.length ((⟨pc, a, v, r⟩ : Pk.Way) :: ws)) cl, u12, u13, u14, .int .i64 (j : Int), .pointer (some ⟨pb, 0, none⟩), .int .i64 (G : Int), .int .i64 (2 * (G : Int)), .int .i64 (j : Int), .bool false, u21, u22, u23, u24, u25, .pointer (some ⟨pb, 1, none⟩), .slice A L.length cp, .int .i64 (L.length : Int), .string ⟨t.toArray⟩, .int .i64 (t.length : Int), .int .i64 ((t.length : Int) + 1), .int .i64 (n : Int), .slice (some ⟨gs, 0, none⟩) n n, .int .i64 (k : Int), .slice Av j cv, .agg #[.int .i64 0, .int .i64 (k : Int), .slice Av j cv], .slice (some ⟨gs + 1, 0, none⟩) 1 1, u38, u39, u40, u41, u42, u43, u44, u45, u46, u47, u48, u49, u50, u51, u52, u53, u54, u55, u56, u57, u58, u59, u60, u61, u62, u63, u64, u65, u66, u67, u68, u69, u70, u71, u72, u73, u74, u75, u76, u77, u78, u79, u80, u81, u82, u83, u84, u85, u86, u87, u88, u89, u90, u91, u92, u93, u94, u95, u96, u97, u98, u99, u100, u101, u102, u103, u104, u105, u106, u107, u108, u109, u110, u111, u112, u113, u114, u115, u116, u117, u118, u119, u120, u121, u122, u123, u124, u125, u126, u127, u128, u129, u130, u131, u132, u133, u134, u135, u136, u137, u138, u139, u140, u141, u142, u143, u144, u145, u146, u147, u148, u149, u150, u151, u152, u153, u154, u155, u156, u157, u158, u159, u160, u161, u162, u163, u164, u165, u166, u167, u168, u169, u170, u171, u172, u173, u174, u175, u176, u177, u178, u179, u180, u181, u182, u183, u184, u185, u186, u187, u188, u189, u190, u191, u192, u193, u194, u195, u196, u197, u198, u199, u200, u201, u202, u203, u204, u205, u206, u207, u208, u209, u210, u211, u212, u213, u214, u215, u216, u217, u218, u219, u220, u221, u222, u223, u224], []⟩ wr := by
  obtain ⟨i0, hi0, hz0, hz1, hz2⟩ := info_parts Pk.int_info2
  have HI := Lib.hid hi0
  have HZ := Lib.hid (And.intro hz0 (And.intro hz1 hz2))
  clear hi0 hz0 hz1 hz2
  obtain ⟨i1, hi1, hy0, hy1, hy2⟩ := info_parts Pk.way_info
  have HI1 := Lib.hid hi1
  have HZ1 := Lib.hid (And.intro hy0 (And.intro hy1 hy2))
  clear hi1 hy0 hy1 hy2
  unfold Pk.WI Pk.Wmu
  conv => arg 2; whnf
  try dsimp only
  have e1 : wr.cell? ⟨pb, 1, none⟩ = some (.slice A L.length cp) := (HB.out.cell (p := ⟨pb, 1, none⟩) (by show pb < pb + 1; omega)).trans hc1
  have hsr := HB.out.size
  have hpr : pb < wr.heap.size := by omega
  obtain ⟨Ar, cr, hv, _⟩ := HW.out.rows ⟨pc, a, v, r⟩ List.mem_cons_self
  have hv : v = .slice Ar r.length cr := hv
  subst hv
  have hat : a ≤ t.length := HW.out.at_ ⟨pc, a, _, r⟩ List.mem_cons_self
  have hatI : (a : Int) ≤ (t.length : Int) := by omega
  have HRL : Hid (r.length = j) := Lib.hid (HW.out.rl ⟨pc, a, _, r⟩ List.mem_cons_self)
  have hwl : ws.length ≤ 1000000000 := by have : ws.length + 1 + _ ≤ _ := hcnt; omega
  obtain ⟨g, cap, hlv, hg1, hg2⟩ := own_some HW.out.own (by show 0 < ws.length + 1; omega)
  have hAl : Al = some ⟨g, 0, none⟩ ∧ cl = cap := by cases hlv; exact ⟨rfl, rfl⟩
  obtain ⟨rfl, rfl⟩ := hAl
  have HWx : Hid (Pk.Wl wr (pb + 1) gs j L t (.slice (some ⟨g, 0, none⟩) (ws.length + 1) cl) (⟨pc, a, .slice Ar r.length cr, r⟩ :: ws) bs) := HW
  obtain ⟨k0, k1, k2⟩ := HWx.out.top
  have hcl : ws.length + 1 ≤ cl := by
    rcases HWx.out.own.2 with ⟨e, _⟩ | ⟨g', cap, cur, e, _, _, h3, _⟩
    · cases e
    · cases e; exact h3
  have hgn : ¬ g = gs := fun e => HWx.out.ne (by rw [← e]; rfl)
  have hgn2 : ¬ gs = g := fun e => hgn e.symm
  have hgp : ¬ g = pb := by omega
  have hgsp : ¬ gs = pb := by have := HWx.out.gs0; omega
  have hgsl : gs < wr.heap.size := (Array.getElem?_eq_some_iff.1 HWx.out.seen).1
  have HD1 : Hid ((Pk.dfs L t (Pk.rdS t.length bs) ((pc, a, r) :: ws.map Pk.Way.ent)).1 = R) := HD
  clear HD HW hlv
  have HSK : Hid (Pk.Wl (wr.alloc (.cells #[.int .i64 pc, .int .i64 (a : Int), .slice Ar r.length cr] 93)) (pb + 1) gs j L t (.slice (some ⟨g, 0, none⟩) ws.length cl) ws bs) := Lib.hid (HWx.out.pop.keep ((Below.refl _ _).alloc (Nat.le_refl _) _))
  have HBK : Hid (Below (pb + 1) wb (wr.alloc (.cells #[.int .i64 pc, .int .i64 (a : Int), .slice Ar r.length cr] 93))) := Lib.hid (HB.out.alloc (by omega) _)
  have hcnt2 : ws.length + 2 * Pk.free n (fun i => bs.getD i false) ≤ 2 * n + 1 := by have : ws.length + 1 + _ ≤ _ := hcnt; omega
  have HNN2 := Lib.hid HNN.out
  obtain ⟨p, rfl⟩ : ∃ p : Nat, pc = (p : Int) := ⟨pc.toNat, by omega⟩
  have hp0 : ¬ (p : Int) < 0 := by omega
  have hp1 : ¬ (L.length : Int) ≤ (p : Int) := by omega
  have hpN : p < L.length := by omega
  obtain ⟨q, hq⟩ : ∃ q, q = p * (t.length + 1) := ⟨_, rfl⟩
  have hqI : (p : Int) * ((t.length : Int) + 1) = (q : Int) := by rw [hq]; simp
  have hqa : q + a < n := by rw [hq, HNN.out]; exact Pk.idx_lt hpN hat
  have hqaI : (q : Int) + (a : Int) < (n : Int) := by omega
  have hq0 : (0 : Int) ≤ (q : Int) := by omega
  have hqn : (q : Int) ≤ 409604096 := by omega
  have hbl : q + a < bs.length := by rw [HWx.out.len, ← HNN.out]; exact hqa
  obtain ⟨sc, sf⟩ := HWx.out.cell (q + a) hbl
  have hS : Pk.rdS t.length bs p a = bs.getD (q + a) false := by
    unfold Pk.rdS
    rw [← hq]
    simp [hat]
  have hgd : bs.getD (q + a) false = bs[q + a] := by rw [List.getD_eq_getElem?_getD, List.getElem?_eq_getElem hbl]; rfl
  have hse : bs[q + a] = false := by rw [← hgd, ← hS]; simpa using hns
  have hsf : Pk.rdS t.length bs p a = false := by rw [hS, hgd]; exact hse
  have hact := Pk.dfs_act (L := L) (t := t) (S := Pk.rdS t.length bs) (h := (p : Int)) (k := a) (r := r) (l := ws.map Pk.Way.ent) ef (by rw [Int.toNat_natCast]; exact hsf) hat
  rw [Int.toNat_natCast, show Pk.see (Pk.rdS t.length bs) p a = Pk.rdS t.length (bs.set (q + a) true) by rw [hq, Pk.rdS_set _ _ _ _ hat (by rw [← hq]; exact hbl)]] at hact
  have HACT := Lib.hid hact
  have HLS := Lib.hid (Pk.left_set n bs (q + a) hqa hbl (by rw [hgd]; exact hse))
  rw [hse] at sc
  have hPx : x.p.length ≤ 1048576 := HPR.out x (by have := (Pk.fetch_some ef).2.2; exact List.mem_of_getElem? this)
  obtain ⟨ib, io, hA, hil, i0', i1', i2', i3', hig⟩ := Pk.prog_cells2 HP1.out ef
  have hA2 : A = some ⟨ib, io, none⟩ := hA
  have hib : ib < pb := by have := HPB.out; omega
  have j0 : wr.cell? ⟨ib, io + p * 4, none⟩ = some (.int .i64 x.op) := (HB.out.cell (p := ⟨ib, io + p * 4, none⟩) (by show ib < pb + 1; omega)).trans (by simpa using i0')
  have j1 : wr.cell? ⟨ib, io + p * 4 + 1, none⟩ = some (.int .i64 x.x) := (HB.out.cell (p := ⟨ib, io + p * 4 + 1, none⟩) (by show ib < pb + 1; omega)).trans (by simpa using i1')
  have j2 : wr.cell? ⟨ib, io + p * 4 + 2, none⟩ = some (.int .i64 x.y) := (HB.out.cell (p := ⟨ib, io + p * 4 + 2, none⟩) (by show ib < pb + 1; omega)).trans (by simpa using i2')
  have j3 : wr.cell? ⟨ib, io + p * 4 + 3, none⟩ = some (.string ⟨x.p.toArray⟩) := (HB.out.cell (p := ⟨ib, io + p * 4 + 3, none⟩) (by show ib < pb + 1; omega)).trans (by simpa using i3')
  have hibg : ¬ gs = ib := by have := HWx.out.gs0; omega
  have hibr : ib < wr.heap.size := by omega
  clear hA
  subst hA2
  have hpw : IntKind.i64.wrap ((p : Int) + 1) = (p : Int) + 1 := by rw [IntKind.wrap_i64]; omega
  have haw : IntKind.i64.wrap ((a : Int) + 1) = (a : Int) + 1 := by rw [IntKind.wrap_i64]; omega
  clear i0' i1' i2' i3' hact hS hgd hsf hq HSK HBK hig
  obtain ⟨xop, xx, xy, xp⟩ := x
  have hop : xop = 3 := hop
  subst hop
  go_upto_region 14 with fail
  have HV : Hid (Pk.act t a ⟨3, xx, xy, xp⟩ (p : Int) r = .go [(xx, r)]) := Lib.hid (by simp [Pk.act])
  have HF2 : Hid (Pk.Wl (((wr.setCell ⟨gs, q + a, none⟩ (.bool true)).alloc (.cells #[.int .i64 (p : Int), .int .i64 (a : Int), .slice Ar r.length cr] 93)).alloc (.cells #[.int .i64 3, .int .i64 xx, .int .i64 xy, .string ⟨xp.toArray⟩] 57)) (pb + 1) gs j L t (.slice (some ⟨g, 0, none⟩) (ws.length + 1) cl) (⟨(p : Int), a, .slice Ar r.length cr, r⟩ :: ws) (bs.set (q + a) true)) := Lib.hid (((HWx.out.marked (q + a)).keep ((Below.refl _ _).alloc (Nat.le_refl _) _)).keep ((Below.refl _ _).alloc (Nat.le_refl _) _))
  have HB2 : Hid (Below (pb + 1) wb (((wr.setCell ⟨gs, q + a, none⟩ (.bool true)).alloc (.cells #[.int .i64 (p : Int), .int .i64 (a : Int), .slice Ar r.length cr] 93)).alloc (.cells #[.int .i64 3, .int .i64 xx, .int .i64 xy, .string ⟨xp.toArray⟩] 57))) := Lib.hid (((HB.out.setCell (by have := HWx.out.gs0; exact this) _).alloc (by simp [World.setCell]; omega) _).alloc (by simp [World.setCell]; omega) _)
  have hcnt3 : ws.length + 2 * Pk.free n (fun i => (bs.set (q + a) true).getD i false) + 2 ≤ 2 * n + 1 := by have := HLS.out; omega
  have hROW : Rd (((wr.setCell ⟨gs, q + a, none⟩ (.bool true)).alloc (.cells #[.int .i64 (p : Int), .int .i64 (a : Int), .slice Ar r.length cr] 93)).alloc (.cells #[.int .i64 3, .int .i64 xx, .int .i64 xy, .string ⟨xp.toArray⟩] 57)) (fun i => pb + 1 ≤ i ∧ i ≠ gs ∧ (Value.slice (some ⟨g, 0, none⟩) ws.length cl).ownBlock ≠ some i) Ar (iv r) := by
    obtain ⟨A', c', e, hr⟩ := HF2.out.rows _ List.mem_cons_self
    cases e
    exact hr
  have HNEW : Hid (∀ x ∈ ([⟨xx, a, .slice Ar r.length cr, r⟩] : List Pk.Way), (∃ A c, x.v = .slice A x.r.length c ∧ Rd (((wr.setCell ⟨gs, q + a, none⟩ (.bool true)).alloc (.cells #[.int .i64 (p : Int), .int .i64 (a : Int), .slice Ar r.length cr] 93)).alloc (.cells #[.int .i64 3, .int .i64 xx, .int .i64 xy, .string ⟨xp.toArray⟩] 57)) (fun i => pb + 1 ≤ i ∧ i ≠ gs ∧ (Value.slice (some ⟨g, 0, none⟩) ws.length cl).ownBlock ≠ some i) A (iv x.r)) ∧ x.at_ ≤ t.length ∧ x.r.length = j) := Lib.hid fun x hx => by
    simp at hx
    rcases hx with rfl
    all_goals exact ⟨⟨Ar, cr, rfl, hROW⟩, by first | exact hat | (show a + 1 ≤ t.length; omega), HRL.out⟩
  have HOA : Hid (((((wr.setCell ⟨gs, q + a, none⟩ (.bool true)).alloc (.cells #[.int .i64 (p : Int), .int .i64 (a : Int), .slice Ar r.length cr] 93)).alloc (.cells #[.int .i64 3, .int .i64 xx, .int .i64 xy, .string ⟨xp.toArray⟩] 57)).alloc (.cells #[.int .i64 xx, .int .i64 (a : Int), .slice Ar r.length cr] 93)).ownsRow (pb + 1) 93 3 (.slice (some ⟨g, 0, none⟩) ws.length cl) ws.length (Pk.wcells ws.reverse)) := Lib.hid (HF2.out.pop.own.alloc _)
  have HRD : Hid (Rd ((((wr.setCell ⟨gs, q + a, none⟩ (.bool true)).alloc (.cells #[.int .i64 (p : Int), .int .i64 (a : Int), .slice Ar r.length cr] 93)).alloc (.cells #[.int .i64 3, .int .i64 xx, .int .i64 xy, .string ⟨xp.toArray⟩] 57)).alloc (.cells #[.int .i64 xx, .int .i64 (a : Int), .slice Ar r.length cr] 93)) (fun b => b = wr.heap.size + 1 + 1) (some ⟨wr.heap.size + 1 + 1, 0, none⟩) [.int .i64 xx, .int .i64 (a : Int), .slice Ar r.length cr]) := Lib.hid (Rd.fresh (((wr.setCell ⟨gs, q + a, none⟩ (.bool true)).alloc (.cells #[.int .i64 (p : Int), .int .i64 (a : Int), .slice Ar r.length cr] 93)).alloc (.cells #[.int .i64 3, .int .i64 xx, .int .i64 xy, .string ⟨xp.toArray⟩] 57)) [.int .i64 xx, .int .i64 (a : Int), .slice Ar r.length cr] 93 _ (by simp [World.setCell]))
  go_wp2_with (at_builtin; go_must (refine wpList_app _ rfl (.tmp 149) (.tmp 157) 94 rfl (pb + 1) 93 i1 _ 3 40 Try.underlying94 HI1.out HZ1.out.1 HZ1.out.2.1 HZ1.out.2.2 rfl (by decide) (.slice (some ⟨g, 0, none⟩) ws.length cl) ws.length (Pk.wcells ws.reverse) (by simp [Act.eval]) HOA.out (fun b => b = wr.heap.size + 1 + 1) (some ⟨wr.heap.size + 1 + 1, 0, none⟩) 1 1 [.int .i64 xx, .int .i64 (a : Int), .slice Ar r.length cr] (by simp [Act.eval]) (by simp) HRD.out (by intro u hu; simp at hu; rcases hu with rfl | rfl | rfl <;> rfl) (by unfold maxLen; omega) (by omega) (by simp [World.setCell]; omega) ?_; intro v2 w2 hown2 hg2 hat2 hnil2; have HPU := Lib.hid (Pk.Wl.push HF2.out.pop ((Below.refl _ _).alloc (Nat.le_refl _) (.cells #[.int .i64 xx, .int .i64 (a : Int), .slice Ar r.length cr] 93)) (new := [⟨xx, a, .slice Ar r.length cr, r⟩]) hown2 hg2 hat2 HNEW.out); have HBP : Hid (Below (pb + 1) wb w2) := Lib.hid ((HB2.out.alloc (by simp [World.setCell]; omega) (.cells #[.int .i64 xx, .int .i64 (a : Int), .slice Ar r.length cr] 93)).trans ⟨hg2.os, hg2.tape, hg2.output, hg2.size, fun b hb => hg2.block b (by simp [World.setCell]; omega) (fun e => by have := (World.ownsRow.lt HOA.out b e.symm).1; omega)⟩); obtain ⟨A2, c2, rfl⟩ := own_form hown2; clear hown2 hg2 hat2 hnil2))
  go_roundw
  case rel => exact ⟨([⟨xx, a, .slice Ar r.length cr, r⟩] : List Pk.Way).reverse ++ ws, bs.set (q + a) true, ⟨A2, c2, rfl⟩, HPU, HBP, Lib.hid (by rw [← HD1.out, HACT.out, HV.out]; rfl), by show ws.length + 1 + _ ≤ _; omega⟩
  case measure => rw [HPU.out.left, HWx.out.left, ← HNN.out]; show 2 * _ + (ws.length + 1) < 2 * _ + (ws.length + 1); have := HLS.out; omega
set_option linter.unusedVariables false in
set_option maxRecDepth 1000000 in
set_option maxHeartbeats 200000000 in
theorem walk_op7 {W wb wr : World} {A Av : Option Addr} {cp cv : Nat} {L : List Rx.In} {t : List UInt8} {G k n j pb gs : Nat} {R : Option Pk.Row} {K : Act → World → Prop} {u6 u7 u12 u13 u14 u38 u39 u40 u41 u42 u43 u44 u45 u46 u47 u48 u49 u50 u51 u52 u53 u54 u55 u56 u57 u58 u59 u60 u61 u62 u63 u64 u65 u66 u67 u68 u69 u70 u71 u72 u73 u74 u75 u76 u77 u78 u79 u80 u81 u82 u83 u84 u85 u86 u87 u88 u89 u90 u91 u92 u93 u94 u95 u96 u97 u98 u99 u100 u101 u102 u103 u104 u105 u106 u107 u108 u109 u110 u111 u112 u113 u114 u115 u116 u117 u118 u119 u120 u121 u122 u123 u124 u125 u126 u127 u128 u129 u130 u131 u132 u133 u134 u135 u136 u137 u138 u139 u140 u141 u142 u143 u144 u145 u146 u147 u148 u149 u150 u151 u152 u153 u154 u155 u156 u157 u158 u159 u160 u161 u162 u163 u164 u165 u166 u167 u168 u169 u170 u171 u172 u173 u174 u175 u176 u177 u178 u179 u180 u181 u182 u183 u184 u185 u186 u187 u188 u189 u190 u191 u192 u193 u194 u195 u196 u197 u198 u199 u200 u201 u202 u203 u204 u205 u206 u207 u208 u209 u210 u211 u212 u213 u214 u215 u216 u217 u218 u219 u220 u221 u222 u223 u224 u21 u22 u23 u24 u25 : Value} {ws : List Pk.Way} {bs : List Bool} {Al : Option Addr} {cl a : Nat} {pc : Int} {v : Value} {r : Pk.Row} (hL : L.length ≤ 4096) (ht : t.length ≤ 100000) (hG : G ≤ 1024) (hk : k ≤ t.length) (hGI : (0 : Int) ≤ (G : Int)) (hGI2 : (G : Int) ≤ 1024) (hnb : n ≤ 4096 * 100001) (hnI : (L.length : Int) * ((t.length : Int) + 1) = (n : Int)) (hnw : IntKind.i64.wrap (n : Int) = (n : Int)) (hnwI : (n : Int) ≤ 409604096) (HNN : Hid (n = L.length * (t.length + 1))) (hlt : (t.length : Int) ≤ 100000) (HPR : Hid (∀ x ∈ L, x.p.length ≤ 1048576)) (HPB : Hid (pb = W.heap.size)) (HB0 : Hid (Below W.heap.size W wb)) (HP1 : Hid (Rd wb (fun i => i < W.heap.size) A (icells L))) (hsz : wb.heap.size = pb + 1) (hc1 : wb.cell? ⟨pb, 1, none⟩ = some (.slice A L.length cp)) (hc0 : wb.cell? ⟨pb, 0, none⟩ = some (.int .i64 (G : Int))) (hwI : (2 : Int) * (G : Int) + 2 = (j : Int)) (hw2 : 2 ≤ j) (hw4 : j ≤ 4096) (HW : Hid (Pk.Wl wr (pb + 1) gs j L t (.slice Al (List.length ((⟨pc, a, v, r⟩ : Pk.Way) :: ws)) cl) ((⟨pc, a, v, r⟩ : Pk.Way) :: ws) bs)) (HB : Hid (Below (pb + 1) wb wr)) (HD : Hid ((Pk.dfs L t (Pk.rdS t.length bs) (((⟨pc, a, v, r⟩ : Pk.Way) :: ws).map Pk.Way.ent)).1 = R)) (hcnt : List.length ((⟨pc, a, v, r⟩ : Pk.Way) :: ws) + 2 * Pk.free n (fun i => bs.getD i false) ≤ 2 * n + 1) {x : Rx.In} (ef : Pk.fetch L pc = some x) (hpc0 : 0 ≤ pc) (hpc1 : pc < (L.length : Int)) (hns : Pk.rdS t.length bs pc.toNat a = false) (hop : x.op = 7) : Code.wp Try.prog Pk.wbody (Exit.then (fun a' w' => Pk.WI G A L cp t k pb Av cv j gs n wb R u21 u22 u23 u24 u25 a' w' ∧ Pk.Wmu gs L t a' w' < Pk.Wmu gs L t ⟨#[.agg #[.int .i64 (G : Int), .slice A L.length cp], .string ⟨t.toArray⟩, .int .i64 (k : Int), .pointer (some ⟨pb, 0, none⟩), undef, undef, u6, u7, .slice Av j cv, .int .i64 (j : Int), .slice (some ⟨gs, 0, none⟩) n n, .slice Al (List.length ((⟨pc, a, v, r⟩ : Pk.Way) :: ws)) cl, u12, u13, u14, .int .i64 (j : Int), .pointer (some ⟨pb, 0, none⟩), .int .i64 (G : Int), .int .i64 (2 * (G : Int)), .int .i64 (j : Int), .bool false, u21, u22, u23, u24, u25, .pointer (some ⟨pb, 1, none⟩), .slice A L.length cp, .int .i64 (L.length : Int), .string ⟨t.toArray⟩, .int .i64 (t.length : Int), .int .i64 ((t.length : Int) + 1), .int .i64 (n : Int), .slice (some ⟨gs, 0, none⟩) n n, .int .i64 (k : Int), .slice Av j cv, .agg #[.int .i64 0, .int .i64 (k : Int), .slice Av j cv], .slice (some ⟨gs + 1, 0, none⟩) 1 1, u38, u39, u40, u41, u42, u43, u44, u45, u46, u47, u48, u49, u50, u51, u52, u53, u54, u55, u56, u57, u58, u59, u60, u61, u62, u63, u64, u65, u66, u67, u68, u69, u70, u71, u72, u73, u74, u75, u76, u77, u78, u79, u80, u81, u82, u83, u84, u85, u86, u87, u88, u89, u90, u91, u92, u93, u94, u95, u96, u97, u98, u99, u100, u101, u102, u103, u104, u105, u106, u107, u108, u109, u110, u111, u112, u113, u114, u115, u116, u117, u118, u119, u120, u121, u122, u123, u124, u125, u126, u127, u128, u129, u130, u131, u132, u133, u134, u135, u136, u137, u138, u139, u140, u141, u142, u143, u144, u145, u146, u147, u148, u149, u150, u151, u152, u153, u154, u155, u156, u157, u158, u159, u160, u161, u162, u163, u164, u165, u166, u167, u168, u169, u170, u171, u172, u173, u174, u175, u176, u177, u178, u179, u180, u181, u182, u183, u184, u185, u186, u187, u188, u189, u190, u191, u192, u193, u194, u195, u196, u197, u198, u199, u200, u201, u202, u203, u204, u205, u206, u207, u208, u209, u210, u211, u212, u213, u214, u215, u216, u217, u218, u219, u220, u221, u222, u223, u224], []⟩ wr) (Exit.inBlock 2 (Exit.then K (bodyPost Try.prog Try.f27 (Pk.Walkd W R))))) ⟨#[.agg #[.int .i64 (G : Int), .slice A L.length cp], .string ⟨t.toArray⟩, .int .i64 (k : Int), .pointer (some ⟨pb, 0, none⟩), undef, undef, u6, u7, .slice Av j cv, .int .i64 (j : Int), .slice (some ⟨gs, 0, none⟩) n n, .slice Al (List.length ((⟨pc, a, v, r⟩ : Pk.Way) :: ws)) cl, u12, u13, u14, .int .i64 (j : Int), .pointer (some ⟨pb, 0, none⟩), .int .i64 (G : Int), .int .i64 (2 * (G : Int)), .int .i64 (j : Int), .bool false, u21, u22, u23, u24, u25, .pointer (some ⟨pb, 1, none⟩), .slice A L.length cp, .int .i64 (L.length : Int), .string ⟨t.toArray⟩, .int .i64 (t.length : Int), .int .i64 ((t.length : Int) + 1), .int .i64 (n : Int), .slice (some ⟨gs, 0, none⟩) n n, .int .i64 (k : Int), .slice Av j cv, .agg #[.int .i64 0, .int .i64 (k : Int), .slice Av j cv], .slice (some ⟨gs + 1, 0, none⟩) 1 1, u38, u39, u40, u41, u42, u43, u44, u45, u46, u47, u48, u49, u50, u51, u52, u53, u54, u55, u56, u57, u58, u59, u60, u61, u62, u63, u64, u65, u66, u67, u68, u69, u70, u71, u72, u73, u74, u75, u76, u77, u78, u79, u80, u81, u82, u83, u84, u85, u86, u87, u88, u89, u90, u91, u92, u93, u94, u95, u96, u97, u98, u99, u100, u101, u102, u103, u104, u105, u106, u107, u108, u109, u110, u111, u112, u113, u114, u115, u116, u117, u118, u119, u120, u121, u122, u123, u124, u125, u126, u127, u128, u129, u130, u131, u132, u133, u134, u135, u136, u137, u138, u139, u140, u141, u142, u143, u144, u145, u146, u147, u148, u149, u150, u151, u152, u153, u154, u155, u156, u157, u158, u159, u160, u161, u162, u163, u164, u165, u166, u167, u168, u169, u170, u171, u172, u173, u174, u175, u176, u177, u178, u179, u180, u181, u182, u183, u184, u185, u186, u187, u188, u189, u190, u191, u192, u193, u194, u195, u196, u197, u198, u199, u200, u201, u202, u203, u204, u205, u206, u207, u208, u209, u210, u211, u212, u213, u214, u215, u216, u217, u218, u219, u220, u221, u222, u223, u224], []⟩ wr := by
  obtain ⟨i0, hi0, hz0, hz1, hz2⟩ := info_parts Pk.int_info2
  have HI := Lib.hid hi0
  have HZ := Lib.hid (And.intro hz0 (And.intro hz1 hz2))
  clear hi0 hz0 hz1 hz2
  obtain ⟨i1, hi1, hy0, hy1, hy2⟩ := info_parts Pk.way_info
  have HI1 := Lib.hid hi1
  have HZ1 := Lib.hid (And.intro hy0 (And.intro hy1 hy2))
  clear hi1 hy0 hy1 hy2
  unfold Pk.WI Pk.Wmu
  conv => arg 2; whnf
  try dsimp only
  have e1 : wr.cell? ⟨pb, 1, none⟩ = some (.slice A L.length cp) := (HB.out.cell (p := ⟨pb, 1, none⟩) (by show pb < pb + 1; omega)).trans hc1
  have hsr := HB.out.size
  have hpr : pb < wr.heap.size := by omega
  obtain ⟨Ar, cr, hv, _⟩ := HW.out.rows ⟨pc, a, v, r⟩ List.mem_cons_self
  have hv : v = .slice Ar r.length cr := hv
  subst hv
  have hat : a ≤ t.length := HW.out.at_ ⟨pc, a, _, r⟩ List.mem_cons_self
  have hatI : (a : Int) ≤ (t.length : Int) := by omega
  have HRL : Hid (r.length = j) := Lib.hid (HW.out.rl ⟨pc, a, _, r⟩ List.mem_cons_self)
  have hwl : ws.length ≤ 1000000000 := by have : ws.length + 1 + _ ≤ _ := hcnt; omega
  obtain ⟨g, cap, hlv, hg1, hg2⟩ := own_some HW.out.own (by show 0 < ws.length + 1; omega)
  have hAl : Al = some ⟨g, 0, none⟩ ∧ cl = cap := by cases hlv; exact ⟨rfl, rfl⟩
  obtain ⟨rfl, rfl⟩ := hAl
  have HWx : Hid (Pk.Wl wr (pb + 1) gs j L t (.slice (some ⟨g, 0, none⟩) (ws.length + 1) cl) (⟨pc, a, .slice Ar r.length cr, r⟩ :: ws) bs) := HW
  obtain ⟨k0, k1, k2⟩ := HWx.out.top
  have hcl : ws.length + 1 ≤ cl := by
    rcases HWx.out.own.2 with ⟨e, _⟩ | ⟨g', cap, cur, e, _, _, h3, _⟩
    · cases e
    · cases e; exact h3
  have hgn : ¬ g = gs := fun e => HWx.out.ne (by rw [← e]; rfl)
  have hgn2 : ¬ gs = g := fun e => hgn e.symm
  have hgp : ¬ g = pb := by omega
  have hgsp : ¬ gs = pb := by have := HWx.out.gs0; omega
  have hgsl : gs < wr.heap.size := (Array.getElem?_eq_some_iff.1 HWx.out.seen).1
  have HD1 : Hid ((Pk.dfs L t (Pk.rdS t.length bs) ((pc, a, r) :: ws.map Pk.Way.ent)).1 = R) := HD
  clear HD HW hlv
  have HSK : Hid (Pk.Wl (wr.alloc (.cells #[.int .i64 pc, .int .i64 (a : Int), .slice Ar r.length cr] 93)) (pb + 1) gs j L t (.slice (some ⟨g, 0, none⟩) ws.length cl) ws bs) := Lib.hid (HWx.out.pop.keep ((Below.refl _ _).alloc (Nat.le_refl _) _))
  have HBK : Hid (Below (pb + 1) wb (wr.alloc (.cells #[.int .i64 pc, .int .i64 (a : Int), .slice Ar r.length cr] 93))) := Lib.hid (HB.out.alloc (by omega) _)
  have hcnt2 : ws.length + 2 * Pk.free n (fun i => bs.getD i false) ≤ 2 * n + 1 := by have : ws.length + 1 + _ ≤ _ := hcnt; omega
  have HNN2 := Lib.hid HNN.out
  obtain ⟨p, rfl⟩ : ∃ p : Nat, pc = (p : Int) := ⟨pc.toNat, by omega⟩
  have hp0 : ¬ (p : Int) < 0 := by omega
  have hp1 : ¬ (L.length : Int) ≤ (p : Int) := by omega
  have hpN : p < L.length := by omega
  obtain ⟨q, hq⟩ : ∃ q, q = p * (t.length + 1) := ⟨_, rfl⟩
  have hqI : (p : Int) * ((t.length : Int) + 1) = (q : Int) := by rw [hq]; simp
  have hqa : q + a < n := by rw [hq, HNN.out]; exact Pk.idx_lt hpN hat
  have hqaI : (q : Int) + (a : Int) < (n : Int) := by omega
  have hq0 : (0 : Int) ≤ (q : Int) := by omega
  have hqn : (q : Int) ≤ 409604096 := by omega
  have hbl : q + a < bs.length := by rw [HWx.out.len, ← HNN.out]; exact hqa
  obtain ⟨sc, sf⟩ := HWx.out.cell (q + a) hbl
  have hS : Pk.rdS t.length bs p a = bs.getD (q + a) false := by
    unfold Pk.rdS
    rw [← hq]
    simp [hat]
  have hgd : bs.getD (q + a) false = bs[q + a] := by rw [List.getD_eq_getElem?_getD, List.getElem?_eq_getElem hbl]; rfl
  have hse : bs[q + a] = false := by rw [← hgd, ← hS]; simpa using hns
  have hsf : Pk.rdS t.length bs p a = false := by rw [hS, hgd]; exact hse
  have hact := Pk.dfs_act (L := L) (t := t) (S := Pk.rdS t.length bs) (h := (p : Int)) (k := a) (r := r) (l := ws.map Pk.Way.ent) ef (by rw [Int.toNat_natCast]; exact hsf) hat
  rw [Int.toNat_natCast, show Pk.see (Pk.rdS t.length bs) p a = Pk.rdS t.length (bs.set (q + a) true) by rw [hq, Pk.rdS_set _ _ _ _ hat (by rw [← hq]; exact hbl)]] at hact
  have HACT := Lib.hid hact
  have HLS := Lib.hid (Pk.left_set n bs (q + a) hqa hbl (by rw [hgd]; exact hse))
  rw [hse] at sc
  have hPx : x.p.length ≤ 1048576 := HPR.out x (by have := (Pk.fetch_some ef).2.2; exact List.mem_of_getElem? this)
  obtain ⟨ib, io, hA, hil, i0', i1', i2', i3', hig⟩ := Pk.prog_cells2 HP1.out ef
  have hA2 : A = some ⟨ib, io, none⟩ := hA
  have hib : ib < pb := by have := HPB.out; omega
  have j0 : wr.cell? ⟨ib, io + p * 4, none⟩ = some (.int .i64 x.op) := (HB.out.cell (p := ⟨ib, io + p * 4, none⟩) (by show ib < pb + 1; omega)).trans (by simpa using i0')
  have j1 : wr.cell? ⟨ib, io + p * 4 + 1, none⟩ = some (.int .i64 x.x) := (HB.out.cell (p := ⟨ib, io + p * 4 + 1, none⟩) (by show ib < pb + 1; omega)).trans (by simpa using i1')
  have j2 : wr.cell? ⟨ib, io + p * 4 + 2, none⟩ = some (.int .i64 x.y) := (HB.out.cell (p := ⟨ib, io + p * 4 + 2, none⟩) (by show ib < pb + 1; omega)).trans (by simpa using i2')
  have j3 : wr.cell? ⟨ib, io + p * 4 + 3, none⟩ = some (.string ⟨x.p.toArray⟩) := (HB.out.cell (p := ⟨ib, io + p * 4 + 3, none⟩) (by show ib < pb + 1; omega)).trans (by simpa using i3')
  have hibg : ¬ gs = ib := by have := HWx.out.gs0; omega
  have hibr : ib < wr.heap.size := by omega
  clear hA
  subst hA2
  have hpw : IntKind.i64.wrap ((p : Int) + 1) = (p : Int) + 1 := by rw [IntKind.wrap_i64]; omega
  have haw : IntKind.i64.wrap ((a : Int) + 1) = (a : Int) + 1 := by rw [IntKind.wrap_i64]; omega
  clear i0' i1' i2' i3' hact hS hgd hsf hq HSK HBK hig
  obtain ⟨xop, xx, xy, xp⟩ := x
  have hop : xop = 7 := hop
  subst hop
  go_upto_region 14 with fail
  have HV : Hid (Pk.act t a ⟨7, xx, xy, xp⟩ (p : Int) r = .hit) := Lib.hid (by simp [Pk.act])
  have HF2 : Hid (Pk.Wl (((wr.setCell ⟨gs, q + a, none⟩ (.bool true)).alloc (.cells #[.int .i64 (p : Int), .int .i64 (a : Int), .slice Ar r.length cr] 93)).alloc (.cells #[.int .i64 7, .int .i64 xx, .int .i64 xy, .string ⟨xp.toArray⟩] 57)) (pb + 1) gs j L t (.slice (some ⟨g, 0, none⟩) (ws.length + 1) cl) (⟨(p : Int), a, .slice Ar r.length cr, r⟩ :: ws) (bs.set (q + a) true)) := Lib.hid (((HWx.out.marked (q + a)).keep ((Below.refl _ _).alloc (Nat.le_refl _) _)).keep ((Below.refl _ _).alloc (Nat.le_refl _) _))
  have HB2 : Hid (Below (pb + 1) wb (((wr.setCell ⟨gs, q + a, none⟩ (.bool true)).alloc (.cells #[.int .i64 (p : Int), .int .i64 (a : Int), .slice Ar r.length cr] 93)).alloc (.cells #[.int .i64 7, .int .i64 xx, .int .i64 xy, .string ⟨xp.toArray⟩] 57))) := Lib.hid (((HB.out.setCell (by have := HWx.out.gs0; exact this) _).alloc (by simp [World.setCell]; omega) _).alloc (by simp [World.setCell]; omega) _)
  have hcnt3 : ws.length + 2 * Pk.free n (fun i => (bs.set (q + a) true).getD i false) + 2 ≤ 2 * n + 1 := by have := HLS.out; omega
  have hROW : Rd (((wr.setCell ⟨gs, q + a, none⟩ (.bool true)).alloc (.cells #[.int .i64 (p : Int), .int .i64 (a : Int), .slice Ar r.length cr] 93)).alloc (.cells #[.int .i64 7, .int .i64 xx, .int .i64 xy, .string ⟨xp.toArray⟩] 57)) (fun i => pb + 1 ≤ i ∧ i ≠ gs ∧ (Value.slice (some ⟨g, 0, none⟩) ws.length cl).ownBlock ≠ some i) Ar (iv r) := by
    obtain ⟨A', c', e, hr⟩ := HF2.out.rows _ List.mem_cons_self
    cases e
    exact hr
  have HEX : Hid (R = some r) := Lib.hid (by rw [← HD1.out, HACT.out, HV.out])
  go_wp2_with fail
  ((try simp only [Exit.inBlock, Exit.then]); refine bodyPost_ret (results_tmp2 rfl _ _ _) rfl ?_)
  refine ⟨_, _, rfl, HB0.out.trans (HB2.out.mono (by have := HPB.out; omega)), ?_⟩
  rw [HEX.out]
  exact ⟨rfl, Ar, cr, rfl, hROW.mono fun i _ hi => by have := HPB.out; have := hi.1; omega⟩
set_option linter.unusedVariables false in
set_option maxRecDepth 1000000 in
set_option maxHeartbeats 200000000 in
theorem walk_op5 {W wb wr : World} {A Av : Option Addr} {cp cv : Nat} {L : List Rx.In} {t : List UInt8} {G k n j pb gs : Nat} {R : Option Pk.Row} {K : Act → World → Prop} {u6 u7 u12 u13 u14 u38 u39 u40 u41 u42 u43 u44 u45 u46 u47 u48 u49 u50 u51 u52 u53 u54 u55 u56 u57 u58 u59 u60 u61 u62 u63 u64 u65 u66 u67 u68 u69 u70 u71 u72 u73 u74 u75 u76 u77 u78 u79 u80 u81 u82 u83 u84 u85 u86 u87 u88 u89 u90 u91 u92 u93 u94 u95 u96 u97 u98 u99 u100 u101 u102 u103 u104 u105 u106 u107 u108 u109 u110 u111 u112 u113 u114 u115 u116 u117 u118 u119 u120 u121 u122 u123 u124 u125 u126 u127 u128 u129 u130 u131 u132 u133 u134 u135 u136 u137 u138 u139 u140 u141 u142 u143 u144 u145 u146 u147 u148 u149 u150 u151 u152 u153 u154 u155 u156 u157 u158 u159 u160 u161 u162 u163 u164 u165 u166 u167 u168 u169 u170 u171 u172 u173 u174 u175 u176 u177 u178 u179 u180 u181 u182 u183 u184 u185 u186 u187 u188 u189 u190 u191 u192 u193 u194 u195 u196 u197 u198 u199 u200 u201 u202 u203 u204 u205 u206 u207 u208 u209 u210 u211 u212 u213 u214 u215 u216 u217 u218 u219 u220 u221 u222 u223 u224 u21 u22 u23 u24 u25 : Value} {ws : List Pk.Way} {bs : List Bool} {Al : Option Addr} {cl a : Nat} {pc : Int} {v : Value} {r : Pk.Row} (hL : L.length ≤ 4096) (ht : t.length ≤ 100000) (hG : G ≤ 1024) (hk : k ≤ t.length) (hGI : (0 : Int) ≤ (G : Int)) (hGI2 : (G : Int) ≤ 1024) (hnb : n ≤ 4096 * 100001) (hnI : (L.length : Int) * ((t.length : Int) + 1) = (n : Int)) (hnw : IntKind.i64.wrap (n : Int) = (n : Int)) (hnwI : (n : Int) ≤ 409604096) (HNN : Hid (n = L.length * (t.length + 1))) (hlt : (t.length : Int) ≤ 100000) (HPR : Hid (∀ x ∈ L, x.p.length ≤ 1048576)) (HPB : Hid (pb = W.heap.size)) (HB0 : Hid (Below W.heap.size W wb)) (HP1 : Hid (Rd wb (fun i => i < W.heap.size) A (icells L))) (hsz : wb.heap.size = pb + 1) (hc1 : wb.cell? ⟨pb, 1, none⟩ = some (.slice A L.length cp)) (hc0 : wb.cell? ⟨pb, 0, none⟩ = some (.int .i64 (G : Int))) (hwI : (2 : Int) * (G : Int) + 2 = (j : Int)) (hw2 : 2 ≤ j) (hw4 : j ≤ 4096) (HW : Hid (Pk.Wl wr (pb + 1) gs j L t (.slice Al (List.length ((⟨pc, a, v, r⟩ : Pk.Way) :: ws)) cl) ((⟨pc, a, v, r⟩ : Pk.Way) :: ws) bs)) (HB : Hid (Below (pb + 1) wb wr)) (HD : Hid ((Pk.dfs L t (Pk.rdS t.length bs) (((⟨pc, a, v, r⟩ : Pk.Way) :: ws).map Pk.Way.ent)).1 = R)) (hcnt : List.length ((⟨pc, a, v, r⟩ : Pk.Way) :: ws) + 2 * Pk.free n (fun i => bs.getD i false) ≤ 2 * n + 1) {x : Rx.In} (ef : Pk.fetch L pc = some x) (hpc0 : 0 ≤ pc) (hpc1 : pc < (L.length : Int)) (hns : Pk.rdS t.length bs pc.toNat a = false) (hop : x.op = 5) : Code.wp Try.prog Pk.wbody (Exit.then (fun a' w' => Pk.WI G A L cp t k pb Av cv j gs n wb R u21 u22 u23 u24 u25 a' w' ∧ Pk.Wmu gs L t a' w' < Pk.Wmu gs L t ⟨#[.agg #[.int .i64 (G : Int), .slice A L.length cp], .string ⟨t.toArray⟩, .int .i64 (k : Int), .pointer (some ⟨pb, 0, none⟩), undef, undef, u6, u7, .slice Av j cv, .int .i64 (j : Int), .slice (some ⟨gs, 0, none⟩) n n, .slice Al (List.length ((⟨pc, a, v, r⟩ : Pk.Way) :: ws)) cl, u12, u13, u14, .int .i64 (j : Int), .pointer (some ⟨pb, 0, none⟩), .int .i64 (G : Int), .int .i64 (2 * (G : Int)), .int .i64 (j : Int), .bool false, u21, u22, u23, u24, u25, .pointer (some ⟨pb, 1, none⟩), .slice A L.length cp, .int .i64 (L.length : Int), .string ⟨t.toArray⟩, .int .i64 (t.length : Int), .int .i64 ((t.length : Int) + 1), .int .i64 (n : Int), .slice (some ⟨gs, 0, none⟩) n n, .int .i64 (k : Int), .slice Av j cv, .agg #[.int .i64 0, .int .i64 (k : Int), .slice Av j cv], .slice (some ⟨gs + 1, 0, none⟩) 1 1, u38, u39, u40, u41, u42, u43, u44, u45, u46, u47, u48, u49, u50, u51, u52, u53, u54, u55, u56, u57, u58, u59, u60, u61, u62, u63, u64, u65, u66, u67, u68, u69, u70, u71, u72, u73, u74, u75, u76, u77, u78, u79, u80, u81, u82, u83, u84, u85, u86, u87, u88, u89, u90, u91, u92, u93, u94, u95, u96, u97, u98, u99, u100, u101, u102, u103, u104, u105, u106, u107, u108, u109, u110, u111, u112, u113, u114, u115, u116, u117, u118, u119, u120, u121, u122, u123, u124, u125, u126, u127, u128, u129, u130, u131, u132, u133, u134, u135, u136, u137, u138, u139, u140, u141, u142, u143, u144, u145, u146, u147, u148, u149, u150, u151, u152, u153, u154, u155, u156, u157, u158, u159, u160, u161, u162, u163, u164, u165, u166, u167, u168, u169, u170, u171, u172, u173, u174, u175, u176, u177, u178, u179, u180, u181, u182, u183, u184, u185, u186, u187, u188, u189, u190, u191, u192, u193, u194, u195, u196, u197, u198, u199, u200, u201, u202, u203, u204, u205, u206, u207, u208, u209, u210, u211, u212, u213, u214, u215, u216, u217, u218, u219, u220, u221, u222, u223, u224], []⟩ wr) (Exit.inBlock 2 (Exit.then K (bodyPost Try.prog Try.f27 (Pk.Walkd W R))))) ⟨#[.agg #[.int .i64 (G : Int), .slice A L.length cp], .string ⟨t.toArray⟩, .int .i64 (k : Int), .pointer (some ⟨pb, 0, none⟩), undef, undef, u6, u7, .slice Av j cv, .int .i64 (j : Int), .slice (some ⟨gs, 0, none⟩) n n, .slice Al (List.length ((⟨pc, a, v, r⟩ : Pk.Way) :: ws)) cl, u12, u13, u14, .int .i64 (j : Int), .pointer (some ⟨pb, 0, none⟩), .int .i64 (G : Int), .int .i64 (2 * (G : Int)), .int .i64 (j : Int), .bool false, u21, u22, u23, u24, u25, .pointer (some ⟨pb, 1, none⟩), .slice A L.length cp, .int .i64 (L.length : Int), .string ⟨t.toArray⟩, .int .i64 (t.length : Int), .int .i64 ((t.length : Int) + 1), .int .i64 (n : Int), .slice (some ⟨gs, 0, none⟩) n n, .int .i64 (k : Int), .slice Av j cv, .agg #[.int .i64 0, .int .i64 (k : Int), .slice Av j cv], .slice (some ⟨gs + 1, 0, none⟩) 1 1, u38, u39, u40, u41, u42, u43, u44, u45, u46, u47, u48, u49, u50, u51, u52, u53, u54, u55, u56, u57, u58, u59, u60, u61, u62, u63, u64, u65, u66, u67, u68, u69, u70, u71, u72, u73, u74, u75, u76, u77, u78, u79, u80, u81, u82, u83, u84, u85, u86, u87, u88, u89, u90, u91, u92, u93, u94, u95, u96, u97, u98, u99, u100, u101, u102, u103, u104, u105, u106, u107, u108, u109, u110, u111, u112, u113, u114, u115, u116, u117, u118, u119, u120, u121, u122, u123, u124, u125, u126, u127, u128, u129, u130, u131, u132, u133, u134, u135, u136, u137, u138, u139, u140, u141, u142, u143, u144, u145, u146, u147, u148, u149, u150, u151, u152, u153, u154, u155, u156, u157, u158, u159, u160, u161, u162, u163, u164, u165, u166, u167, u168, u169, u170, u171, u172, u173, u174, u175, u176, u177, u178, u179, u180, u181, u182, u183, u184, u185, u186, u187, u188, u189, u190, u191, u192, u193, u194, u195, u196, u197, u198, u199, u200, u201, u202, u203, u204, u205, u206, u207, u208, u209, u210, u211, u212, u213, u214, u215, u216, u217, u218, u219, u220, u221, u222, u223, u224], []⟩ wr := by
  obtain ⟨i0, hi0, hz0, hz1, hz2⟩ := info_parts Pk.int_info2
  have HI := Lib.hid hi0
  have HZ := Lib.hid (And.intro hz0 (And.intro hz1 hz2))
  clear hi0 hz0 hz1 hz2
  obtain ⟨i1, hi1, hy0, hy1, hy2⟩ := info_parts Pk.way_info
  have HI1 := Lib.hid hi1
  have HZ1 := Lib.hid (And.intro hy0 (And.intro hy1 hy2))
  clear hi1 hy0 hy1 hy2
  unfold Pk.WI Pk.Wmu
  conv => arg 2; whnf
  try dsimp only
  have e1 : wr.cell? ⟨pb, 1, none⟩ = some (.slice A L.length cp) := (HB.out.cell (p := ⟨pb, 1, none⟩) (by show pb < pb + 1; omega)).trans hc1
  have hsr := HB.out.size
  have hpr : pb < wr.heap.size := by omega
  obtain ⟨Ar, cr, hv, _⟩ := HW.out.rows ⟨pc, a, v, r⟩ List.mem_cons_self
  have hv : v = .slice Ar r.length cr := hv
  subst hv
  have hat : a ≤ t.length := HW.out.at_ ⟨pc, a, _, r⟩ List.mem_cons_self
  have hatI : (a : Int) ≤ (t.length : Int) := by omega
  have HRL : Hid (r.length = j) := Lib.hid (HW.out.rl ⟨pc, a, _, r⟩ List.mem_cons_self)
  have hwl : ws.length ≤ 1000000000 := by have : ws.length + 1 + _ ≤ _ := hcnt; omega
  obtain ⟨g, cap, hlv, hg1, hg2⟩ := own_some HW.out.own (by show 0 < ws.length + 1; omega)
  have hAl : Al = some ⟨g, 0, none⟩ ∧ cl = cap := by cases hlv; exact ⟨rfl, rfl⟩
  obtain ⟨rfl, rfl⟩ := hAl
  have HWx : Hid (Pk.Wl wr (pb + 1) gs j L t (.slice (some ⟨g, 0, none⟩) (ws.length + 1) cl) (⟨pc, a, .slice Ar r.length cr, r⟩ :: ws) bs) := HW
  obtain ⟨k0, k1, k2⟩ := HWx.out.top
  have hcl : ws.length + 1 ≤ cl := by
    rcases HWx.out.own.2 with ⟨e, _⟩ | ⟨g', cap, cur, e, _, _, h3, _⟩
    · cases e
    · cases e; exact h3
  have hgn : ¬ g = gs := fun e => HWx.out.ne (by rw [← e]; rfl)
  have hgn2 : ¬ gs = g := fun e => hgn e.symm
  have hgp : ¬ g = pb := by omega
  have hgsp : ¬ gs = pb := by have := HWx.out.gs0; omega
  have hgsl : gs < wr.heap.size := (Array.getElem?_eq_some_iff.1 HWx.out.seen).1
  have HD1 : Hid ((Pk.dfs L t (Pk.rdS t.length bs) ((pc, a, r) :: ws.map Pk.Way.ent)).1 = R) := HD
  clear HD HW hlv
  have HSK : Hid (Pk.Wl (wr.alloc (.cells #[.int .i64 pc, .int .i64 (a : Int), .slice Ar r.length cr] 93)) (pb + 1) gs j L t (.slice (some ⟨g, 0, none⟩) ws.length cl) ws bs) := Lib.hid (HWx.out.pop.keep ((Below.refl _ _).alloc (Nat.le_refl _) _))
  have HBK : Hid (Below (pb + 1) wb (wr.alloc (.cells #[.int .i64 pc, .int .i64 (a : Int), .slice Ar r.length cr] 93))) := Lib.hid (HB.out.alloc (by omega) _)
  have hcnt2 : ws.length + 2 * Pk.free n (fun i => bs.getD i false) ≤ 2 * n + 1 := by have : ws.length + 1 + _ ≤ _ := hcnt; omega
  have HNN2 := Lib.hid HNN.out
  obtain ⟨p, rfl⟩ : ∃ p : Nat, pc = (p : Int) := ⟨pc.toNat, by omega⟩
  have hp0 : ¬ (p : Int) < 0 := by omega
  have hp1 : ¬ (L.length : Int) ≤ (p : Int) := by omega
  have hpN : p < L.length := by omega
  obtain ⟨q, hq⟩ : ∃ q, q = p * (t.length + 1) := ⟨_, rfl⟩
  have hqI : (p : Int) * ((t.length : Int) + 1) = (q : Int) := by rw [hq]; simp
  have hqa : q + a < n := by rw [hq, HNN.out]; exact Pk.idx_lt hpN hat
  have hqaI : (q : Int) + (a : Int) < (n : Int) := by omega
  have hq0 : (0 : Int) ≤ (q : Int) := by omega
  have hqn : (q : Int) ≤ 409604096 := by omega
  have hbl : q + a < bs.length := by rw [HWx.out.len, ← HNN.out]; exact hqa
  obtain ⟨sc, sf⟩ := HWx.out.cell (q + a) hbl
  have hS : Pk.rdS t.length bs p a = bs.getD (q + a) false := by
    unfold Pk.rdS
    rw [← hq]
    simp [hat]
  have hgd : bs.getD (q + a) false = bs[q + a] := by rw [List.getD_eq_getElem?_getD, List.getElem?_eq_getElem hbl]; rfl
  have hse : bs[q + a] = false := by rw [← hgd, ← hS]; simpa using hns
  have hsf : Pk.rdS t.length bs p a = false := by rw [hS, hgd]; exact hse
  have hact := Pk.dfs_act (L := L) (t := t) (S := Pk.rdS t.length bs) (h := (p : Int)) (k := a) (r := r) (l := ws.map Pk.Way.ent) ef (by rw [Int.toNat_natCast]; exact hsf) hat
  rw [Int.toNat_natCast, show Pk.see (Pk.rdS t.length bs) p a = Pk.rdS t.length (bs.set (q + a) true) by rw [hq, Pk.rdS_set _ _ _ _ hat (by rw [← hq]; exact hbl)]] at hact
  have HACT := Lib.hid hact
  have HLS := Lib.hid (Pk.left_set n bs (q + a) hqa hbl (by rw [hgd]; exact hse))
  rw [hse] at sc
  have hPx : x.p.length ≤ 1048576 := HPR.out x (by have := (Pk.fetch_some ef).2.2; exact List.mem_of_getElem? this)
  obtain ⟨ib, io, hA, hil, i0', i1', i2', i3', hig⟩ := Pk.prog_cells2 HP1.out ef
  have hA2 : A = some ⟨ib, io, none⟩ := hA
  have hib : ib < pb := by have := HPB.out; omega
  have j0 : wr.cell? ⟨ib, io + p * 4, none⟩ = some (.int .i64 x.op) := (HB.out.cell (p := ⟨ib, io + p * 4, none⟩) (by show ib < pb + 1; omega)).trans (by simpa using i0')
  have j1 : wr.cell? ⟨ib, io + p * 4 + 1, none⟩ = some (.int .i64 x.x) := (HB.out.cell (p := ⟨ib, io + p * 4 + 1, none⟩) (by show ib < pb + 1; omega)).trans (by simpa using i1')
  have j2 : wr.cell? ⟨ib, io + p * 4 + 2, none⟩ = some (.int .i64 x.y) := (HB.out.cell (p := ⟨ib, io + p * 4 + 2, none⟩) (by show ib < pb + 1; omega)).trans (by simpa using i2')
  have j3 : wr.cell? ⟨ib, io + p * 4 + 3, none⟩ = some (.string ⟨x.p.toArray⟩) := (HB.out.cell (p := ⟨ib, io + p * 4 + 3, none⟩) (by show ib < pb + 1; omega)).trans (by simpa using i3')
  have hibg : ¬ gs = ib := by have := HWx.out.gs0; omega
  have hibr : ib < wr.heap.size := by omega
  clear hA
  subst hA2
  have hpw : IntKind.i64.wrap ((p : Int) + 1) = (p : Int) + 1 := by rw [IntKind.wrap_i64]; omega
  have haw : IntKind.i64.wrap ((a : Int) + 1) = (a : Int) + 1 := by rw [IntKind.wrap_i64]; omega
  clear i0' i1' i2' i3' hact hS hgd hsf hq HSK HBK hig
  obtain ⟨xop, xx, xy, xp⟩ := x
  have hop : xop = 5 := hop
  subst hop
  go_upto_region 14 with fail
  by_cases ha0 : a = 0
  · have haI : (a : Int) ≤ 0 := by omega
    have HV : Hid (Pk.act t a ⟨5, xx, xy, xp⟩ (p : Int) r = .go [((p : Int) + 1, r)]) := Lib.hid (by simp [Pk.act, ha0])
    have HA0 := Lib.hid ha0
    clear ha0
    have HF2 : Hid (Pk.Wl (((wr.setCell ⟨gs, q + a, none⟩ (.bool true)).alloc (.cells #[.int .i64 (p : Int), .int .i64 (a : Int), .slice Ar r.length cr] 93)).alloc (.cells #[.int .i64 5, .int .i64 xx, .int .i64 xy, .string ⟨xp.toArray⟩] 57)) (pb + 1) gs j L t (.slice (some ⟨g, 0, none⟩) (ws.length + 1) cl) (⟨(p : Int), a, .slice Ar r.length cr, r⟩ :: ws) (bs.set (q + a) true)) := Lib.hid (((HWx.out.marked (q + a)).keep ((Below.refl _ _).alloc (Nat.le_refl _) _)).keep ((Below.refl _ _).alloc (Nat.le_refl _) _))
    have HB2 : Hid (Below (pb + 1) wb (((wr.setCell ⟨gs, q + a, none⟩ (.bool true)).alloc (.cells #[.int .i64 (p : Int), .int .i64 (a : Int), .slice Ar r.length cr] 93)).alloc (.cells #[.int .i64 5, .int .i64 xx, .int .i64 xy, .string ⟨xp.toArray⟩] 57))) := Lib.hid (((HB.out.setCell (by have := HWx.out.gs0; exact this) _).alloc (by simp [World.setCell]; omega) _).alloc (by simp [World.setCell]; omega) _)
    have hcnt3 : ws.length + 2 * Pk.free n (fun i => (bs.set (q + a) true).getD i false) + 2 ≤ 2 * n + 1 := by have := HLS.out; omega
    have hROW : Rd (((wr.setCell ⟨gs, q + a, none⟩ (.bool true)).alloc (.cells #[.int .i64 (p : Int), .int .i64 (a : Int), .slice Ar r.length cr] 93)).alloc (.cells #[.int .i64 5, .int .i64 xx, .int .i64 xy, .string ⟨xp.toArray⟩] 57)) (fun i => pb + 1 ≤ i ∧ i ≠ gs ∧ (Value.slice (some ⟨g, 0, none⟩) ws.length cl).ownBlock ≠ some i) Ar (iv r) := by
      obtain ⟨A', c', e, hr⟩ := HF2.out.rows _ List.mem_cons_self
      cases e
      exact hr
    have HNEW : Hid (∀ x ∈ ([⟨((p : Int) + 1), a, .slice Ar r.length cr, r⟩] : List Pk.Way), (∃ A c, x.v = .slice A x.r.length c ∧ Rd (((wr.setCell ⟨gs, q + a, none⟩ (.bool true)).alloc (.cells #[.int .i64 (p : Int), .int .i64 (a : Int), .slice Ar r.length cr] 93)).alloc (.cells #[.int .i64 5, .int .i64 xx, .int .i64 xy, .string ⟨xp.toArray⟩] 57)) (fun i => pb + 1 ≤ i ∧ i ≠ gs ∧ (Value.slice (some ⟨g, 0, none⟩) ws.length cl).ownBlock ≠ some i) A (iv x.r)) ∧ x.at_ ≤ t.length ∧ x.r.length = j) := Lib.hid fun x hx => by
      simp at hx
      rcases hx with rfl
      all_goals exact ⟨⟨Ar, cr, rfl, hROW⟩, by first | exact hat | (show a + 1 ≤ t.length; omega), HRL.out⟩
    have HOA : Hid (((((wr.setCell ⟨gs, q + a, none⟩ (.bool true)).alloc (.cells #[.int .i64 (p : Int), .int .i64 (a : Int), .slice Ar r.length cr] 93)).alloc (.cells #[.int .i64 5, .int .i64 xx, .int .i64 xy, .string ⟨xp.toArray⟩] 57)).alloc (.cells #[.int .i64 ((p : Int) + 1), .int .i64 (a : Int), .slice Ar r.length cr] 93)).ownsRow (pb + 1) 93 3 (.slice (some ⟨g, 0, none⟩) ws.length cl) ws.length (Pk.wcells ws.reverse)) := Lib.hid (HF2.out.pop.own.alloc _)
    have HRD : Hid (Rd ((((wr.setCell ⟨gs, q + a, none⟩ (.bool true)).alloc (.cells #[.int .i64 (p : Int), .int .i64 (a : Int), .slice Ar r.length cr] 93)).alloc (.cells #[.int .i64 5, .int .i64 xx, .int .i64 xy, .string ⟨xp.toArray⟩] 57)).alloc (.cells #[.int .i64 ((p : Int) + 1), .int .i64 (a : Int), .slice Ar r.length cr] 93)) (fun b => b = wr.heap.size + 1 + 1) (some ⟨wr.heap.size + 1 + 1, 0, none⟩) [.int .i64 ((p : Int) + 1), .int .i64 (a : Int), .slice Ar r.length cr]) := Lib.hid (Rd.fresh (((wr.setCell ⟨gs, q + a, none⟩ (.bool true)).alloc (.cells #[.int .i64 (p : Int), .int .i64 (a : Int), .slice Ar r.length cr] 93)).alloc (.cells #[.int .i64 5, .int .i64 xx, .int .i64 xy, .string ⟨xp.toArray⟩] 57)) [.int .i64 ((p : Int) + 1), .int .i64 (a : Int), .slice Ar r.length cr] 93 _ (by simp [World.setCell]))
    go_wp2_with (at_builtin; go_must (refine wpList_app _ rfl (.tmp 196) (.tmp 205) 94 rfl (pb + 1) 93 i1 _ 3 40 Try.underlying94 HI1.out HZ1.out.1 HZ1.out.2.1 HZ1.out.2.2 rfl (by decide) (.slice (some ⟨g, 0, none⟩) ws.length cl) ws.length (Pk.wcells ws.reverse) (by simp [Act.eval]) HOA.out (fun b => b = wr.heap.size + 1 + 1) (some ⟨wr.heap.size + 1 + 1, 0, none⟩) 1 1 [.int .i64 ((p : Int) + 1), .int .i64 (a : Int), .slice Ar r.length cr] (by simp [Act.eval]) (by simp) HRD.out (by intro u hu; simp at hu; rcases hu with rfl | rfl | rfl <;> rfl) (by unfold maxLen; omega) (by omega) (by simp [World.setCell]; omega) ?_; intro v2 w2 hown2 hg2 hat2 hnil2; have HPU := Lib.hid (Pk.Wl.push HF2.out.pop ((Below.refl _ _).alloc (Nat.le_refl _) (.cells #[.int .i64 ((p : Int) + 1), .int .i64 (a : Int), .slice Ar r.length cr] 93)) (new := [⟨((p : Int) + 1), a, .slice Ar r.length cr, r⟩]) hown2 hg2 hat2 HNEW.out); have HBP : Hid (Below (pb + 1) wb w2) := Lib.hid ((HB2.out.alloc (by simp [World.setCell]; omega) (.cells #[.int .i64 ((p : Int) + 1), .int .i64 (a : Int), .slice Ar r.length cr] 93)).trans ⟨hg2.os, hg2.tape, hg2.output, hg2.size, fun b hb => hg2.block b (by simp [World.setCell]; omega) (fun e => by have := (World.ownsRow.lt HOA.out b e.symm).1; omega)⟩); obtain ⟨A2, c2, rfl⟩ := own_form hown2; clear hown2 hg2 hat2 hnil2))
    go_roundw
    case rel => exact ⟨([⟨((p : Int) + 1), a, .slice Ar r.length cr, r⟩] : List Pk.Way).reverse ++ ws, bs.set (q + a) true, ⟨A2, c2, rfl⟩, HPU, HBP, Lib.hid (by rw [← HD1.out, HACT.out, HV.out]; rfl), by show ws.length + 1 + _ ≤ _; omega⟩
    case measure => rw [HPU.out.left, HWx.out.left, ← HNN.out]; show 2 * _ + (ws.length + 1) < 2 * _ + (ws.length + 1); have := HLS.out; omega
  · have HV : Hid (Pk.act t a ⟨5, xx, xy, xp⟩ (p : Int) r = .dead) := Lib.hid (by simp [Pk.act, ha0])
    have HF2 : Hid (Pk.Wl (((wr.setCell ⟨gs, q + a, none⟩ (.bool true)).alloc (.cells #[.int .i64 (p : Int), .int .i64 (a : Int), .slice Ar r.length cr] 93)).alloc (.cells #[.int .i64 5, .int .i64 xx, .int .i64 xy, .string ⟨xp.toArray⟩] 57)) (pb + 1) gs j L t (.slice (some ⟨g, 0, none⟩) (ws.length + 1) cl) (⟨(p : Int), a, .slice Ar r.length cr, r⟩ :: ws) (bs.set (q + a) true)) := Lib.hid (((HWx.out.marked (q + a)).keep ((Below.refl _ _).alloc (Nat.le_refl _) _)).keep ((Below.refl _ _).alloc (Nat.le_refl _) _))
    have HB2 : Hid (Below (pb + 1) wb (((wr.setCell ⟨gs, q + a, none⟩ (.bool true)).alloc (.cells #[.int .i64 (p : Int), .int .i64 (a : Int), .slice Ar r.length cr] 93)).alloc (.cells #[.int .i64 5, .int .i64 xx, .int .i64 xy, .string ⟨xp.toArray⟩] 57))) := Lib.hid (((HB.out.setCell (by have := HWx.out.gs0; exact this) _).alloc (by simp [World.setCell]; omega) _).alloc (by simp [World.setCell]; omega) _)
    have hcnt3 : ws.length + 2 * Pk.free n (fun i => (bs.set (q + a) true).getD i false) + 2 ≤ 2 * n + 1 := by have := HLS.out; omega
    go_wp2_with fail
    go_roundw
    case rel => exact ⟨ws, bs.set (q + a) true, ⟨_, _, rfl⟩, Lib.hid HF2.out.pop, HB2, Lib.hid (by rw [← HD1.out, HACT.out, HV.out]), by omega⟩
    case measure => rw [HF2.out.pop.left, HWx.out.left, ← HNN.out]; show 2 * _ + ws.length < 2 * _ + (ws.length + 1); have := HLS.out; omega
set_option linter.unusedVariables false in
set_option maxRecDepth 1000000 in
set_option maxHeartbeats 200000000 in
theorem walk_op6 {W wb wr : World} {A Av : Option Addr} {cp cv : Nat} {L : List Rx.In} {t : List UInt8} {G k n j pb gs : Nat} {R : Option Pk.Row} {K : Act → World → Prop} {u6 u7 u12 u13 u14 u38 u39 u40 u41 u42 u43 u44 u45 u46 u47 u48 u49 u50 u51 u52 u53 u54 u55 u56 u57 u58 u59 u60 u61 u62 u63 u64 u65 u66 u67 u68 u69 u70 u71 u72 u73 u74 u75 u76 u77 u78 u79 u80 u81 u82 u83 u84 u85 u86 u87 u88 u89 u90 u91 u92 u93 u94 u95 u96 u97 u98 u99 u100 u101 u102 u103 u104 u105 u106 u107 u108 u109 u110 u111 u112 u113 u114 u115 u116 u117 u118 u119 u120 u121 u122 u123 u124 u125 u126 u127 u128 u129 u130 u131 u132 u133 u134 u135 u136 u137 u138 u139 u140 u141 u142 u143 u144 u145 u146 u147 u148 u149 u150 u151 u152 u153 u154 u155 u156 u157 u158 u159 u160 u161 u162 u163 u164 u165 u166 u167 u168 u169 u170 u171 u172 u173 u174 u175 u176 u177 u178 u179 u180 u181 u182 u183 u184 u185 u186 u187 u188 u189 u190 u191 u192 u193 u194 u195 u196 u197 u198 u199 u200 u201 u202 u203 u204 u205 u206 u207 u208 u209 u210 u211 u212 u213 u214 u215 u216 u217 u218 u219 u220 u221 u222 u223 u224 u21 u22 u23 u24 u25 : Value} {ws : List Pk.Way} {bs : List Bool} {Al : Option Addr} {cl a : Nat} {pc : Int} {v : Value} {r : Pk.Row} (hL : L.length ≤ 4096) (ht : t.length ≤ 100000) (hG : G ≤ 1024) (hk : k ≤ t.length) (hGI : (0 : Int) ≤ (G : Int)) (hGI2 : (G : Int) ≤ 1024) (hnb : n ≤ 4096 * 100001) (hnI : (L.length : Int) * ((t.length : Int) + 1) = (n : Int)) (hnw : IntKind.i64.wrap (n : Int) = (n : Int)) (hnwI : (n : Int) ≤ 409604096) (HNN : Hid (n = L.length * (t.length + 1))) (hlt : (t.length : Int) ≤ 100000) (HPR : Hid (∀ x ∈ L, x.p.length ≤ 1048576)) (HPB : Hid (pb = W.heap.size)) (HB0 : Hid (Below W.heap.size W wb)) (HP1 : Hid (Rd wb (fun i => i < W.heap.size) A (icells L))) (hsz : wb.heap.size = pb + 1) (hc1 : wb.cell? ⟨pb, 1, none⟩ = some (.slice A L.length cp)) (hc0 : wb.cell? ⟨pb, 0, none⟩ = some (.int .i64 (G : Int))) (hwI : (2 : Int) * (G : Int) + 2 = (j : Int)) (hw2 : 2 ≤ j) (hw4 : j ≤ 4096) (HW : Hid (Pk.Wl wr (pb + 1) gs j L t (.slice Al (List.length ((⟨pc, a, v, r⟩ : Pk.Way) :: ws)) cl) ((⟨pc, a, v, r⟩ : Pk.Way) :: ws) bs)) (HB : Hid (Below (pb + 1) wb wr)) (HD : Hid ((Pk.dfs L t (Pk.rdS t.length bs) (((⟨pc, a, v, r⟩ : Pk.Way) :: ws).map Pk.Way.ent)).1 = R)) (hcnt : List.length ((⟨pc, a, v, r⟩ : Pk.Way) :: ws) + 2 * Pk.free n (fun i => bs.getD i false) ≤ 2 * n + 1) {x : Rx.In} (ef : Pk.fetch L pc = some x) (hpc0 : 0 ≤ pc) (hpc1 : pc < (L.length : Int)) (hns : Pk.rdS t.length bs pc.toNat a = false) (hop : x.op = 6) : Code.wp Try.prog Pk.wbody (Exit.then (fun a' w' => Pk.WI G A L cp t k pb Av cv j gs n wb R u21 u22 u23 u24 u25 a' w' ∧ Pk.Wmu gs L t a' w' < Pk.Wmu gs L t ⟨#[.agg #[.int .i64 (G : Int), .slice A L.length cp], .string ⟨t.toArray⟩, .int .i64 (k : Int), .pointer (some ⟨pb, 0, none⟩), undef, undef, u6, u7, .slice Av j cv, .int .i64 (j : Int), .slice (some ⟨gs, 0, none⟩) n n, .slice Al (List.length ((⟨pc, a, v, r⟩ : Pk.Way) :: ws)) cl, u12, u13, u14, .int .i64 (j : Int), .pointer (some ⟨pb, 0, none⟩), .int .i64 (G : Int), .int .i64 (2 * (G : Int)), .int .i64 (j : Int), .bool false, u21, u22, u23, u24, u25, .pointer (some ⟨pb, 1, none⟩), .slice A L.length cp, .int .i64 (L.length : Int), .string ⟨t.toArray⟩, .int .i64 (t.length : Int), .int .i64 ((t.length : Int) + 1), .int .i64 (n : Int), .slice (some ⟨gs, 0, none⟩) n n, .int .i64 (k : Int), .slice Av j cv, .agg #[.int .i64 0, .int .i64 (k : Int), .slice Av j cv], .slice (some ⟨gs + 1, 0, none⟩) 1 1, u38, u39, u40, u41, u42, u43, u44, u45, u46, u47, u48, u49, u50, u51, u52, u53, u54, u55, u56, u57, u58, u59, u60, u61, u62, u63, u64, u65, u66, u67, u68, u69, u70, u71, u72, u73, u74, u75, u76, u77, u78, u79, u80, u81, u82, u83, u84, u85, u86, u87, u88, u89, u90, u91, u92, u93, u94, u95, u96, u97, u98, u99, u100, u101, u102, u103, u104, u105, u106, u107, u108, u109, u110, u111, u112, u113, u114, u115, u116, u117, u118, u119, u120, u121, u122, u123, u124, u125, u126, u127, u128, u129, u130, u131, u132, u133, u134, u135, u136, u137, u138, u139, u140, u141, u142, u143, u144, u145, u146, u147, u148, u149, u150, u151, u152, u153, u154, u155, u156, u157, u158, u159, u160, u161, u162, u163, u164, u165, u166, u167, u168, u169, u170, u171, u172, u173, u174, u175, u176, u177, u178, u179, u180, u181, u182, u183, u184, u185, u186, u187, u188, u189, u190, u191, u192, u193, u194, u195, u196, u197, u198, u199, u200, u201, u202, u203, u204, u205, u206, u207, u208, u209, u210, u211, u212, u213, u214, u215, u216, u217, u218, u219, u220, u221, u222, u223, u224], []⟩ wr) (Exit.inBlock 2 (Exit.then K (bodyPost Try.prog Try.f27 (Pk.Walkd W R))))) ⟨#[.agg #[.int .i64 (G : Int), .slice A L.length cp], .string ⟨t.toArray⟩, .int .i64 (k : Int), .pointer (some ⟨pb, 0, none⟩), undef, undef, u6, u7, .slice Av j cv, .int .i64 (j : Int), .slice (some ⟨gs, 0, none⟩) n n, .slice Al (List.length ((⟨pc, a, v, r⟩ : Pk.Way) :: ws)) cl, u12, u13, u14, .int .i64 (j : Int), .pointer (some ⟨pb, 0, none⟩), .int .i64 (G : Int), .int .i64 (2 * (G : Int)), .int .i64 (j : Int), .bool false, u21, u22, u23, u24, u25, .pointer (some ⟨pb, 1, none⟩), .slice A L.length cp, .int .i64 (L.length : Int), .string ⟨t.toArray⟩, .int .i64 (t.length : Int), .int .i64 ((t.length : Int) + 1), .int .i64 (n : Int), .slice (some ⟨gs, 0, none⟩) n n, .int .i64 (k : Int), .slice Av j cv, .agg #[.int .i64 0, .int .i64 (k : Int), .slice Av j cv], .slice (some ⟨gs + 1, 0, none⟩) 1 1, u38, u39, u40, u41, u42, u43, u44, u45, u46, u47, u48, u49, u50, u51, u52, u53, u54, u55, u56, u57, u58, u59, u60, u61, u62, u63, u64, u65, u66, u67, u68, u69, u70, u71, u72, u73, u74, u75, u76, u77, u78, u79, u80, u81, u82, u83, u84, u85, u86, u87, u88, u89, u90, u91, u92, u93, u94, u95, u96, u97, u98, u99, u100, u101, u102, u103, u104, u105, u106, u107, u108, u109, u110, u111, u112, u113, u114, u115, u116, u117, u118, u119, u120, u121, u122, u123, u124, u125, u126, u127, u128, u129, u130, u131, u132, u133, u134, u135, u136, u137, u138, u139, u140, u141, u142, u143, u144, u145, u146, u147, u148, u149, u150, u151, u152, u153, u154, u155, u156, u157, u158, u159, u160, u161, u162, u163, u164, u165, u166, u167, u168, u169, u170, u171, u172, u173, u174, u175, u176, u177, u178, u179, u180, u181, u182, u183, u184, u185, u186, u187, u188, u189, u190, u191, u192, u193, u194, u195, u196, u197, u198, u199, u200, u201, u202, u203, u204, u205, u206, u207, u208, u209, u210, u211, u212, u213, u214, u215, u216, u217, u218, u219, u220, u221, u222, u223, u224], []⟩ wr := by
  obtain ⟨i0, hi0, hz0, hz1, hz2⟩ := info_parts Pk.int_info2
  have HI := Lib.hid hi0
  have HZ := Lib.hid (And.intro hz0 (And.intro hz1 hz2))
  clear hi0 hz0 hz1 hz2
  obtain ⟨i1, hi1, hy0, hy1, hy2⟩ := info_parts Pk.way_info
  have HI1 := Lib.hid hi1
  have HZ1 := Lib.hid (And.intro hy0 (And.intro hy1 hy2))
  clear hi1 hy0 hy1 hy2
  unfold Pk.WI Pk.Wmu
  conv => arg 2; whnf
  try dsimp only
  have e1 : wr.cell? ⟨pb, 1, none⟩ = some (.slice A L.length cp) := (HB.out.cell (p := ⟨pb, 1, none⟩) (by show pb < pb + 1; omega)).trans hc1
  have hsr := HB.out.size
  have hpr : pb < wr.heap.size := by omega
  obtain ⟨Ar, cr, hv, _⟩ := HW.out.rows ⟨pc, a, v, r⟩ List.mem_cons_self
  have hv : v = .slice Ar r.length cr := hv
  subst hv
  have hat : a ≤ t.length := HW.out.at_ ⟨pc, a, _, r⟩ List.mem_cons_self
  have hatI : (a : Int) ≤ (t.length : Int) := by omega
  have HRL : Hid (r.length = j) := Lib.hid (HW.out.rl ⟨pc, a, _, r⟩ List.mem_cons_self)
  have hwl : ws.length ≤ 1000000000 := by have : ws.length + 1 + _ ≤ _ := hcnt; omega
  obtain ⟨g, cap, hlv, hg1, hg2⟩ := own_some HW.out.own (by show 0 < ws.length + 1; omega)
  have hAl : Al = some ⟨g, 0, none⟩ ∧ cl = cap := by cases hlv; exact ⟨rfl, rfl⟩
  obtain ⟨rfl, rfl⟩ := hAl
  have HWx : Hid (Pk.Wl wr (pb + 1) gs j L t (.slice (some ⟨g, 0, none⟩) (ws.length + 1) cl) (⟨pc, a, .slice Ar r.length cr, r⟩ :: ws) bs) := HW
  obtain ⟨k0, k1, k2⟩ := HWx.out.top
  have hcl : ws.length + 1 ≤ cl := by
    rcases HWx.out.own.2 with ⟨e, _⟩ | ⟨g', cap, cur, e, _, _, h3, _⟩
    · cases e
    · cases e; exact h3
  have hgn : ¬ g = gs := fun e => HWx.out.ne (by rw [← e]; rfl)
  have hgn2 : ¬ gs = g := fun e => hgn e.symm
  have hgp : ¬ g = pb := by omega
  have hgsp : ¬ gs = pb := by have := HWx.out.gs0; omega
  have hgsl : gs < wr.heap.size := (Array.getElem?_eq_some_iff.1 HWx.out.seen).1
  have HD1 : Hid ((Pk.dfs L t (Pk.rdS t.length bs) ((pc, a, r) :: ws.map Pk.Way.ent)).1 = R) := HD
  clear HD HW hlv
  have HSK : Hid (Pk.Wl (wr.alloc (.cells #[.int .i64 pc, .int .i64 (a : Int), .slice Ar r.length cr] 93)) (pb + 1) gs j L t (.slice (some ⟨g, 0, none⟩) ws.length cl) ws bs) := Lib.hid (HWx.out.pop.keep ((Below.refl _ _).alloc (Nat.le_refl _) _))
  have HBK : Hid (Below (pb + 1) wb (wr.alloc (.cells #[.int .i64 pc, .int .i64 (a : Int), .slice Ar r.length cr] 93))) := Lib.hid (HB.out.alloc (by omega) _)
  have hcnt2 : ws.length + 2 * Pk.free n (fun i => bs.getD i false) ≤ 2 * n + 1 := by have : ws.length + 1 + _ ≤ _ := hcnt; omega
  have HNN2 := Lib.hid HNN.out
  obtain ⟨p, rfl⟩ : ∃ p : Nat, pc = (p : Int) := ⟨pc.toNat, by omega⟩
  have hp0 : ¬ (p : Int) < 0 := by omega
  have hp1 : ¬ (L.length : Int) ≤ (p : Int) := by omega
  have hpN : p < L.length := by omega
  obtain ⟨q, hq⟩ : ∃ q, q = p * (t.length + 1) := ⟨_, rfl⟩
  have hqI : (p : Int) * ((t.length : Int) + 1) = (q : Int) := by rw [hq]; simp
  have hqa : q + a < n := by rw [hq, HNN.out]; exact Pk.idx_lt hpN hat
  have hqaI : (q : Int) + (a : Int) < (n : Int) := by omega
  have hq0 : (0 : Int) ≤ (q : Int) := by omega
  have hqn : (q : Int) ≤ 409604096 := by omega
  have hbl : q + a < bs.length := by rw [HWx.out.len, ← HNN.out]; exact hqa
  obtain ⟨sc, sf⟩ := HWx.out.cell (q + a) hbl
  have hS : Pk.rdS t.length bs p a = bs.getD (q + a) false := by
    unfold Pk.rdS
    rw [← hq]
    simp [hat]
  have hgd : bs.getD (q + a) false = bs[q + a] := by rw [List.getD_eq_getElem?_getD, List.getElem?_eq_getElem hbl]; rfl
  have hse : bs[q + a] = false := by rw [← hgd, ← hS]; simpa using hns
  have hsf : Pk.rdS t.length bs p a = false := by rw [hS, hgd]; exact hse
  have hact := Pk.dfs_act (L := L) (t := t) (S := Pk.rdS t.length bs) (h := (p : Int)) (k := a) (r := r) (l := ws.map Pk.Way.ent) ef (by rw [Int.toNat_natCast]; exact hsf) hat
  rw [Int.toNat_natCast, show Pk.see (Pk.rdS t.length bs) p a = Pk.rdS t.length (bs.set (q + a) true) by rw [hq, Pk.rdS_set _ _ _ _ hat (by rw [← hq]; exact hbl)]] at hact
  have HACT := Lib.hid hact
  have HLS := Lib.hid (Pk.left_set n bs (q + a) hqa hbl (by rw [hgd]; exact hse))
  rw [hse] at sc
  have hPx : x.p.length ≤ 1048576 := HPR.out x (by have := (Pk.fetch_some ef).2.2; exact List.mem_of_getElem? this)
  obtain ⟨ib, io, hA, hil, i0', i1', i2', i3', hig⟩ := Pk.prog_cells2 HP1.out ef
  have hA2 : A = some ⟨ib, io, none⟩ := hA
  have hib : ib < pb := by have := HPB.out; omega
  have j0 : wr.cell? ⟨ib, io + p * 4, none⟩ = some (.int .i64 x.op) := (HB.out.cell (p := ⟨ib, io + p * 4, none⟩) (by show ib < pb + 1; omega)).trans (by simpa using i0')
  have j1 : wr.cell? ⟨ib, io + p * 4 + 1, none⟩ = some (.int .i64 x.x) := (HB.out.cell (p := ⟨ib, io + p * 4 + 1, none⟩) (by show ib < pb + 1; omega)).trans (by simpa using i1')
  have j2 : wr.cell? ⟨ib, io + p * 4 + 2, none⟩ = some (.int .i64 x.y) := (HB.out.cell (p := ⟨ib, io + p * 4 + 2, none⟩) (by show ib < pb + 1; omega)).trans (by simpa using i2')
  have j3 : wr.cell? ⟨ib, io + p * 4 + 3, none⟩ = some (.string ⟨x.p.toArray⟩) := (HB.out.cell (p := ⟨ib, io + p * 4 + 3, none⟩) (by show ib < pb + 1; omega)).trans (by simpa using i3')
  have hibg : ¬ gs = ib := by have := HWx.out.gs0; omega
  have hibr : ib < wr.heap.size := by omega
  clear hA
  subst hA2
  have hpw : IntKind.i64.wrap ((p : Int) + 1) = (p : Int) + 1 := by rw [IntKind.wrap_i64]; omega
  have haw : IntKind.i64.wrap ((a : Int) + 1) = (a : Int) + 1 := by rw [IntKind.wrap_i64]; omega
  clear i0' i1' i2' i3' hact hS hgd hsf hq HSK HBK hig
  obtain ⟨xop, xx, xy, xp⟩ := x
  have hop : xop = 6 := hop
  subst hop
  go_upto_region 14 with fail
  by_cases hal : a = t.length
  · have HV : Hid (Pk.act t a ⟨6, xx, xy, xp⟩ (p : Int) r = .go [((p : Int) + 1, r)]) := Lib.hid (by simp [Pk.act, hal])
    have halI : (t.length : Int) ≤ (a : Int) := by omega
    have HAL := Lib.hid hal
    clear hal
    have HF2 : Hid (Pk.Wl (((wr.setCell ⟨gs, q + a, none⟩ (.bool true)).alloc (.cells #[.int .i64 (p : Int), .int .i64 (a : Int), .slice Ar r.length cr] 93)).alloc (.cells #[.int .i64 6, .int .i64 xx, .int .i64 xy, .string ⟨xp.toArray⟩] 57)) (pb + 1) gs j L t (.slice (some ⟨g, 0, none⟩) (ws.length + 1) cl) (⟨(p : Int), a, .slice Ar r.length cr, r⟩ :: ws) (bs.set (q + a) true)) := Lib.hid (((HWx.out.marked (q + a)).keep ((Below.refl _ _).alloc (Nat.le_refl _) _)).keep ((Below.refl _ _).alloc (Nat.le_refl _) _))
    have HB2 : Hid (Below (pb + 1) wb (((wr.setCell ⟨gs, q + a, none⟩ (.bool true)).alloc (.cells #[.int .i64 (p : Int), .int .i64 (a : Int), .slice Ar r.length cr] 93)).alloc (.cells #[.int .i64 6, .int .i64 xx, .int .i64 xy, .string ⟨xp.toArray⟩] 57))) := Lib.hid (((HB.out.setCell (by have := HWx.out.gs0; exact this) _).alloc (by simp [World.setCell]; omega) _).alloc (by simp [World.setCell]; omega) _)
    have hcnt3 : ws.length + 2 * Pk.free n (fun i => (bs.set (q + a) true).getD i false) + 2 ≤ 2 * n + 1 := by have := HLS.out; omega
    have hROW : Rd (((wr.setCell ⟨gs, q + a, none⟩ (.bool true)).alloc (.cells #[.int .i64 (p : Int), .int .i64 (a : Int), .slice Ar r.length cr] 93)).alloc (.cells #[.int .i64 6, .int .i64 xx, .int .i64 xy, .string ⟨xp.toArray⟩] 57)) (fun i => pb + 1 ≤ i ∧ i ≠ gs ∧ (Value.slice (some ⟨g, 0, none⟩) ws.length cl).ownBlock ≠ some i) Ar (iv r) := by
      obtain ⟨A', c', e, hr⟩ := HF2.out.rows _ List.mem_cons_self
      cases e
      exact hr
    have HNEW : Hid (∀ x ∈ ([⟨((p : Int) + 1), a, .slice Ar r.length cr, r⟩] : List Pk.Way), (∃ A c, x.v = .slice A x.r.length c ∧ Rd (((wr.setCell ⟨gs, q + a, none⟩ (.bool true)).alloc (.cells #[.int .i64 (p : Int), .int .i64 (a : Int), .slice Ar r.length cr] 93)).alloc (.cells #[.int .i64 6, .int .i64 xx, .int .i64 xy, .string ⟨xp.toArray⟩] 57)) (fun i => pb + 1 ≤ i ∧ i ≠ gs ∧ (Value.slice (some ⟨g, 0, none⟩) ws.length cl).ownBlock ≠ some i) A (iv x.r)) ∧ x.at_ ≤ t.length ∧ x.r.length = j) := Lib.hid fun x hx => by
      simp at hx
      rcases hx with rfl
      all_goals exact ⟨⟨Ar, cr, rfl, hROW⟩, by first | exact hat | (show a + 1 ≤ t.length; omega), HRL.out⟩
    have HOA : Hid (((((wr.setCell ⟨gs, q + a, none⟩ (.bool true)).alloc (.cells #[.int .i64 (p : Int), .int .i64 (a : Int), .slice Ar r.length cr] 93)).alloc (.cells #[.int .i64 6, .int .i64 xx, .int .i64 xy, .string ⟨xp.toArray⟩] 57)).alloc (.cells #[.int .i64 ((p : Int) + 1), .int .i64 (a : Int), .slice Ar r.length cr] 93)).ownsRow (pb + 1) 93 3 (.slice (some ⟨g, 0, none⟩) ws.length cl) ws.length (Pk.wcells ws.reverse)) := Lib.hid (HF2.out.pop.own.alloc _)
    have HRD : Hid (Rd ((((wr.setCell ⟨gs, q + a, none⟩ (.bool true)).alloc (.cells #[.int .i64 (p : Int), .int .i64 (a : Int), .slice Ar r.length cr] 93)).alloc (.cells #[.int .i64 6, .int .i64 xx, .int .i64 xy, .string ⟨xp.toArray⟩] 57)).alloc (.cells #[.int .i64 ((p : Int) + 1), .int .i64 (a : Int), .slice Ar r.length cr] 93)) (fun b => b = wr.heap.size + 1 + 1) (some ⟨wr.heap.size + 1 + 1, 0, none⟩) [.int .i64 ((p : Int) + 1), .int .i64 (a : Int), .slice Ar r.length cr]) := Lib.hid (Rd.fresh (((wr.setCell ⟨gs, q + a, none⟩ (.bool true)).alloc (.cells #[.int .i64 (p : Int), .int .i64 (a : Int), .slice Ar r.length cr] 93)).alloc (.cells #[.int .i64 6, .int .i64 xx, .int .i64 xy, .string ⟨xp.toArray⟩] 57)) [.int .i64 ((p : Int) + 1), .int .i64 (a : Int), .slice Ar r.length cr] 93 _ (by simp [World.setCell]))
    go_wp2_with (at_builtin; go_must (refine wpList_app _ rfl (.tmp 214) (.tmp 223) 94 rfl (pb + 1) 93 i1 _ 3 40 Try.underlying94 HI1.out HZ1.out.1 HZ1.out.2.1 HZ1.out.2.2 rfl (by decide) (.slice (some ⟨g, 0, none⟩) ws.length cl) ws.length (Pk.wcells ws.reverse) (by simp [Act.eval]) HOA.out (fun b => b = wr.heap.size + 1 + 1) (some ⟨wr.heap.size + 1 + 1, 0, none⟩) 1 1 [.int .i64 ((p : Int) + 1), .int .i64 (a : Int), .slice Ar r.length cr] (by simp [Act.eval]) (by simp) HRD.out (by intro u hu; simp at hu; rcases hu with rfl | rfl | rfl <;> rfl) (by unfold maxLen; omega) (by omega) (by simp [World.setCell]; omega) ?_; intro v2 w2 hown2 hg2 hat2 hnil2; have HPU := Lib.hid (Pk.Wl.push HF2.out.pop ((Below.refl _ _).alloc (Nat.le_refl _) (.cells #[.int .i64 ((p : Int) + 1), .int .i64 (a : Int), .slice Ar r.length cr] 93)) (new := [⟨((p : Int) + 1), a, .slice Ar r.length cr, r⟩]) hown2 hg2 hat2 HNEW.out); have HBP : Hid (Below (pb + 1) wb w2) := Lib.hid ((HB2.out.alloc (by simp [World.setCell]; omega) (.cells #[.int .i64 ((p : Int) + 1), .int .i64 (a : Int), .slice Ar r.length cr] 93)).trans ⟨hg2.os, hg2.tape, hg2.output, hg2.size, fun b hb => hg2.block b (by simp [World.setCell]; omega) (fun e => by have := (World.ownsRow.lt HOA.out b e.symm).1; omega)⟩); obtain ⟨A2, c2, rfl⟩ := own_form hown2; clear hown2 hg2 hat2 hnil2))
    go_roundw
    case rel => exact ⟨([⟨((p : Int) + 1), a, .slice Ar r.length cr, r⟩] : List Pk.Way).reverse ++ ws, bs.set (q + a) true, ⟨A2, c2, rfl⟩, HPU, HBP, Lib.hid (by rw [← HD1.out, HACT.out, HV.out]; rfl), by show ws.length + 1 + _ ≤ _; omega⟩
    case measure => rw [HPU.out.left, HWx.out.left, ← HNN.out]; show 2 * _ + (ws.length + 1) < 2 * _ + (ws.length + 1); have := HLS.out; omega
  · have halI : (a : Int) < (t.length : Int) := by omega
    have HV : Hid (Pk.act t a ⟨6, xx, xy, xp⟩ (p : Int) r = .dead) := Lib.hid (by simp [Pk.act, hal])
    have HF2 : Hid (Pk.Wl (((wr.setCell ⟨gs, q + a, none⟩ (.bool true)).alloc (.cells #[.int .i64 (p : Int), .int .i64 (a : Int), .slice Ar r.length cr] 93)).alloc (.cells #[.int .i64 6, .int .i64 xx, .int .i64 xy, .string ⟨xp.toArray⟩] 57)) (pb + 1) gs j L t (.slice (some ⟨g, 0, none⟩) (ws.length + 1) cl) (⟨(p : Int), a, .slice Ar r.length cr, r⟩ :: ws) (bs.set (q + a) true)) := Lib.hid (((HWx.out.marked (q + a)).keep ((Below.refl _ _).alloc (Nat.le_refl _) _)).keep ((Below.refl _ _).alloc (Nat.le_refl _) _))
    have HB2 : Hid (Below (pb + 1) wb (((wr.setCell ⟨gs, q + a, none⟩ (.bool true)).alloc (.cells #[.int .i64 (p : Int), .int .i64 (a : Int), .slice Ar r.length cr] 93)).alloc (.cells #[.int .i64 6, .int .i64 xx, .int .i64 xy, .string ⟨xp.toArray⟩] 57))) := Lib.hid (((HB.out.setCell (by have := HWx.out.gs0; exact this) _).alloc (by simp [World.setCell]; omega) _).alloc (by simp [World.setCell]; omega) _)
    have hcnt3 : ws.length + 2 * Pk.free n (fun i => (bs.set (q + a) true).getD i false) + 2 ≤ 2 * n + 1 := by have := HLS.out; omega
    go_wp2_with fail
    go_roundw
    case rel => exact ⟨ws, bs.set (q + a) true, ⟨_, _, rfl⟩, Lib.hid HF2.out.pop, HB2, Lib.hid (by rw [← HD1.out, HACT.out, HV.out]), by omega⟩
    case measure => rw [HF2.out.pop.left, HWx.out.left, ← HNN.out]; show 2 * _ + ws.length < 2 * _ + (ws.length + 1); have := HLS.out; omega
set_option linter.unusedVariables false in
set_option maxRecDepth 1000000 in
set_option maxHeartbeats 200000000 in
theorem walk_op1 {W wb wr : World} {A Av : Option Addr} {cp cv : Nat} {L : List Rx.In} {t : List UInt8} {G k n j pb gs : Nat} {R : Option Pk.Row} {K : Act → World → Prop} {u6 u7 u12 u13 u14 u38 u39 u40 u41 u42 u43 u44 u45 u46 u47 u48 u49 u50 u51 u52 u53 u54 u55 u56 u57 u58 u59 u60 u61 u62 u63 u64 u65 u66 u67 u68 u69 u70 u71 u72 u73 u74 u75 u76 u77 u78 u79 u80 u81 u82 u83 u84 u85 u86 u87 u88 u89 u90 u91 u92 u93 u94 u95 u96 u97 u98 u99 u100 u101 u102 u103 u104 u105 u106 u107 u108 u109 u110 u111 u112 u113 u114 u115 u116 u117 u118 u119 u120 u121 u122 u123 u124 u125 u126 u127 u128 u129 u130 u131 u132 u133 u134 u135 u136 u137 u138 u139 u140 u141 u142 u143 u144 u145 u146 u147 u148 u149 u150 u151 u152 u153 u154 u155 u156 u157 u158 u159 u160 u161 u162 u163 u164 u165 u166 u167 u168 u169 u170 u171 u172 u173 u174 u175 u176 u177 u178 u179 u180 u181 u182 u183 u184 u185 u186 u187 u188 u189 u190 u191 u192 u193 u194 u195 u196 u197 u198 u199 u200 u201 u202 u203 u204 u205 u206 u207 u208 u209 u210 u211 u212 u213 u214 u215 u216 u217 u218 u219 u220 u221 u222 u223 u224 u21 u22 u23 u24 u25 : Value} {ws : List Pk.Way} {bs : List Bool} {Al : Option Addr} {cl a : Nat} {pc : Int} {v : Value} {r : Pk.Row} (hL : L.length ≤ 4096) (ht : t.length ≤ 100000) (hG : G ≤ 1024) (hk : k ≤ t.length) (hGI : (0 : Int) ≤ (G : Int)) (hGI2 : (G : Int) ≤ 1024) (hnb : n ≤ 4096 * 100001) (hnI : (L.length : Int) * ((t.length : Int) + 1) = (n : Int)) (hnw : IntKind.i64.wrap (n : Int) = (n : Int)) (hnwI : (n : Int) ≤ 409604096) (HNN : Hid (n = L.length * (t.length + 1))) (hlt : (t.length : Int) ≤ 100000) (HPR : Hid (∀ x ∈ L, x.p.length ≤ 1048576)) (HPB : Hid (pb = W.heap.size)) (HB0 : Hid (Below W.heap.size W wb)) (HP1 : Hid (Rd wb (fun i => i < W.heap.size) A (icells L))) (hsz : wb.heap.size = pb + 1) (hc1 : wb.cell? ⟨pb, 1, none⟩ = some (.slice A L.length cp)) (hc0 : wb.cell? ⟨pb, 0, none⟩ = some (.int .i64 (G : Int))) (hwI : (2 : Int) * (G : Int) + 2 = (j : Int)) (hw2 : 2 ≤ j) (hw4 : j ≤ 4096) (HW : Hid (Pk.Wl wr (pb + 1) gs j L t (.slice Al (List.length ((⟨pc, a, v, r⟩ : Pk.Way) :: ws)) cl) ((⟨pc, a, v, r⟩ : Pk.Way) :: ws) bs)) (HB : Hid (Below (pb + 1) wb wr)) (HD : Hid ((Pk.dfs L t (Pk.rdS t.length bs) (((⟨pc, a, v, r⟩ : Pk.Way) :: ws).map Pk.Way.ent)).1 = R)) (hcnt : List.length ((⟨pc, a, v, r⟩ : Pk.Way) :: ws) + 2 * Pk.free n (fun i => bs.getD i false) ≤ 2 * n + 1) {x : Rx.In} (ef : Pk.fetch L pc = some x) (hpc0 : 0 ≤ pc) (hpc1 : pc < (L.length : Int)) (hns : Pk.rdS t.length bs pc.toNat a = false) (hop : x.op = 1) : Code.wp Try.prog Pk.wbody (Exit.then (fun a' w' => Pk.WI G A L cp t k pb Av cv j gs n wb R u21 u22 u23 u24 u25 a' w' ∧ Pk.Wmu gs L t a' w' < Pk.Wmu gs L t ⟨#[.agg #[.int .i64 (G : Int), .slice A L.length cp], .string ⟨t.toArray⟩, .int .i64 (k : Int), .pointer (some ⟨pb, 0, none⟩), undef, undef, u6, u7, .slice Av j cv, .int .i64 (j : Int), .slice (some ⟨gs, 0, none⟩) n n, .slice Al (List.length ((⟨pc, a, v, r⟩ : Pk.Way) :: ws)) cl, u12, u13, u14, .int .i64 (j : Int), .pointer (some ⟨pb, 0, none⟩), .int .i64 (G : Int), .int .i64 (2 * (G : Int)), .int .i64 (j : Int), .bool false, u21, u22, u23, u24, u25, .pointer (some ⟨pb, 1, none⟩), .slice A L.length cp, .int .i64 (L.length : Int), .string ⟨t.toArray⟩, .int .i64 (t.length : Int), .int .i64 ((t.length : Int) + 1), .int .i64 (n : Int), .slice (some ⟨gs, 0, none⟩) n n, .int .i64 (k : Int), .slice Av j cv, .agg #[.int .i64 0, .int .i64 (k : Int), .slice Av j cv], .slice (some ⟨gs + 1, 0, none⟩) 1 1, u38, u39, u40, u41, u42, u43, u44, u45, u46, u47, u48, u49, u50, u51, u52, u53, u54, u55, u56, u57, u58, u59, u60, u61, u62, u63, u64, u65, u66, u67, u68, u69, u70, u71, u72, u73, u74, u75, u76, u77, u78, u79, u80, u81, u82, u83, u84, u85, u86, u87, u88, u89, u90, u91, u92, u93, u94, u95, u96, u97, u98, u99, u100, u101, u102, u103, u104, u105, u106, u107, u108, u109, u110, u111, u112, u113, u114, u115, u116, u117, u118, u119, u120, u121, u122, u123, u124, u125, u126, u127, u128, u129, u130, u131, u132, u133, u134, u135, u136, u137, u138, u139, u140, u141, u142, u143, u144, u145, u146, u147, u148, u149, u150, u151, u152, u153, u154, u155, u156, u157, u158, u159, u160, u161, u162, u163, u164, u165, u166, u167, u168, u169, u170, u171, u172, u173, u174, u175, u176, u177, u178, u179, u180, u181, u182, u183, u184, u185, u186, u187, u188, u189, u190, u191, u192, u193, u194, u195, u196, u197, u198, u199, u200, u201, u202, u203, u204, u205, u206, u207, u208, u209, u210, u211, u212, u213, u214, u215, u216, u217, u218, u219, u220, u221, u222, u223, u224], []⟩ wr) (Exit.inBlock 2 (Exit.then K (bodyPost Try.prog Try.f27 (Pk.Walkd W R))))) ⟨#[.agg #[.int .i64 (G : Int), .slice A L.length cp], .string ⟨t.toArray⟩, .int .i64 (k : Int), .pointer (some ⟨pb, 0, none⟩), undef, undef, u6, u7, .slice Av j cv, .int .i64 (j : Int), .slice (some ⟨gs, 0, none⟩) n n, .slice Al (List.length ((⟨pc, a, v, r⟩ : Pk.Way) :: ws)) cl, u12, u13, u14, .int .i64 (j : Int), .pointer (some ⟨pb, 0, none⟩), .int .i64 (G : Int), .int .i64 (2 * (G : Int)), .int .i64 (j : Int), .bool false, u21, u22, u23, u24, u25, .pointer (some ⟨pb, 1, none⟩), .slice A L.length cp, .int .i64 (L.length : Int), .string ⟨t.toArray⟩, .int .i64 (t.length : Int), .int .i64 ((t.length : Int) + 1), .int .i64 (n : Int), .slice (some ⟨gs, 0, none⟩) n n, .int .i64 (k : Int), .slice Av j cv, .agg #[.int .i64 0, .int .i64 (k : Int), .slice Av j cv], .slice (some ⟨gs + 1, 0, none⟩) 1 1, u38, u39, u40, u41, u42, u43, u44, u45, u46, u47, u48, u49, u50, u51, u52, u53, u54, u55, u56, u57, u58, u59, u60, u61, u62, u63, u64, u65, u66, u67, u68, u69, u70, u71, u72, u73, u74, u75, u76, u77, u78, u79, u80, u81, u82, u83, u84, u85, u86, u87, u88, u89, u90, u91, u92, u93, u94, u95, u96, u97, u98, u99, u100, u101, u102, u103, u104, u105, u106, u107, u108, u109, u110, u111, u112, u113, u114, u115, u116, u117, u118, u119, u120, u121, u122, u123, u124, u125, u126, u127, u128, u129, u130, u131, u132, u133, u134, u135, u136, u137, u138, u139, u140, u141, u142, u143, u144, u145, u146, u147, u148, u149, u150, u151, u152, u153, u154, u155, u156, u157, u158, u159, u160, u161, u162, u163, u164, u165, u166, u167, u168, u169, u170, u171, u172, u173, u174, u175, u176, u177, u178, u179, u180, u181, u182, u183, u184, u185, u186, u187, u188, u189, u190, u191, u192, u193, u194, u195, u196, u197, u198, u199, u200, u201, u202, u203, u204, u205, u206, u207, u208, u209, u210, u211, u212, u213, u214, u215, u216, u217, u218, u219, u220, u221, u222, u223, u224], []⟩ wr := by
  obtain ⟨i0, hi0, hz0, hz1, hz2⟩ := info_parts Pk.int_info2
  have HI := Lib.hid hi0
  have HZ := Lib.hid (And.intro hz0 (And.intro hz1 hz2))
  clear hi0 hz0 hz1 hz2
  obtain ⟨i1, hi1, hy0, hy1, hy2⟩ := info_parts Pk.way_info
  have HI1 := Lib.hid hi1
  have HZ1 := Lib.hid (And.intro hy0 (And.intro hy1 hy2))
  clear hi1 hy0 hy1 hy2
  unfold Pk.WI Pk.Wmu
  conv => arg 2; whnf
  try dsimp only
  have e1 : wr.cell? ⟨pb, 1, none⟩ = some (.slice A L.length cp) := (HB.out.cell (p := ⟨pb, 1, none⟩) (by show pb < pb + 1; omega)).trans hc1
  have hsr := HB.out.size
  have hpr : pb < wr.heap.size := by omega
  obtain ⟨Ar, cr, hv, _⟩ := HW.out.rows ⟨pc, a, v, r⟩ List.mem_cons_self
  have hv : v = .slice Ar r.length cr := hv
  subst hv
  have hat : a ≤ t.length := HW.out.at_ ⟨pc, a, _, r⟩ List.mem_cons_self
  have hatI : (a : Int) ≤ (t.length : Int) := by omega
  have HRL : Hid (r.length = j) := Lib.hid (HW.out.rl ⟨pc, a, _, r⟩ List.mem_cons_self)
  have hwl : ws.length ≤ 1000000000 := by have : ws.length + 1 + _ ≤ _ := hcnt; omega
  obtain ⟨g, cap, hlv, hg1, hg2⟩ := own_some HW.out.own (by show 0 < ws.length + 1; omega)
  have hAl : Al = some ⟨g, 0, none⟩ ∧ cl = cap := by cases hlv; exact ⟨rfl, rfl⟩
  obtain ⟨rfl, rfl⟩ := hAl
  have HWx : Hid (Pk.Wl wr (pb + 1) gs j L t (.slice (some ⟨g, 0, none⟩) (ws.length + 1) cl) (⟨pc, a, .slice Ar r.length cr, r⟩ :: ws) bs) := HW
  obtain ⟨k0, k1, k2⟩ := HWx.out.top
  have hcl : ws.length + 1 ≤ cl := by
    rcases HWx.out.own.2 with ⟨e, _⟩ | ⟨g', cap, cur, e, _, _, h3, _⟩
    · cases e
    · cases e; exact h3
  have hgn : ¬ g = gs := fun e => HWx.out.ne (by rw [← e]; rfl)
  have hgn2 : ¬ gs = g := fun e => hgn e.symm
  have hgp : ¬ g = pb := by omega
  have hgsp : ¬ gs = pb := by have := HWx.out.gs0; omega
  have hgsl : gs < wr.heap.size := (Array.getElem?_eq_some_iff.1 HWx.out.seen).1
  have HD1 : Hid ((Pk.dfs L t (Pk.rdS t.length bs) ((pc, a, r) :: ws.map Pk.Way.ent)).1 = R) := HD
  clear HD HW hlv
  have HSK : Hid (Pk.Wl (wr.alloc (.cells #[.int .i64 pc, .int .i64 (a : Int), .slice Ar r.length cr] 93)) (pb + 1) gs j L t (.slice (some ⟨g, 0, none⟩) ws.length cl) ws bs) := Lib.hid (HWx.out.pop.keep ((Below.refl _ _).alloc (Nat.le_refl _) _))
  have HBK : Hid (Below (pb + 1) wb (wr.alloc (.cells #[.int .i64 pc, .int .i64 (a : Int), .slice Ar r.length cr] 93))) := Lib.hid (HB.out.alloc (by omega) _)
  have hcnt2 : ws.length + 2 * Pk.free n (fun i => bs.getD i false) ≤ 2 * n + 1 := by have : ws.length + 1 + _ ≤ _ := hcnt; omega
  have HNN2 := Lib.hid HNN.out
  obtain ⟨p, rfl⟩ : ∃ p : Nat, pc = (p : Int) := ⟨pc.toNat, by omega⟩
  have hp0 : ¬ (p : Int) < 0 := by omega
  have hp1 : ¬ (L.length : Int) ≤ (p : Int) := by omega
  have hpN : p < L.length := by omega
  obtain ⟨q, hq⟩ : ∃ q, q = p * (t.length + 1) := ⟨_, rfl⟩
  have hqI : (p : Int) * ((t.length : Int) + 1) = (q : Int) := by rw [hq]; simp
  have hqa : q + a < n := by rw [hq, HNN.out]; exact Pk.idx_lt hpN hat
  have hqaI : (q : Int) + (a : Int) < (n : Int) := by omega
  have hq0 : (0 : Int) ≤ (q : Int) := by omega
  have hqn : (q : Int) ≤ 409604096 := by omega
  have hbl : q + a < bs.length := by rw [HWx.out.len, ← HNN.out]; exact hqa
  obtain ⟨sc, sf⟩ := HWx.out.cell (q + a) hbl
  have hS : Pk.rdS t.length bs p a = bs.getD (q + a) false := by
    unfold Pk.rdS
    rw [← hq]
    simp [hat]
  have hgd : bs.getD (q + a) false = bs[q + a] := by rw [List.getD_eq_getElem?_getD, List.getElem?_eq_getElem hbl]; rfl
  have hse : bs[q + a] = false := by rw [← hgd, ← hS]; simpa using hns
  have hsf : Pk.rdS t.length bs p a = false := by rw [hS, hgd]; exact hse
  have hact := Pk.dfs_act (L := L) (t := t) (S := Pk.rdS t.length bs) (h := (p : Int)) (k := a) (r := r) (l := ws.map Pk.Way.ent) ef (by rw [Int.toNat_natCast]; exact hsf) hat
  rw [Int.toNat_natCast, show Pk.see (Pk.rdS t.length bs) p a = Pk.rdS t.length (bs.set (q + a) true) by rw [hq, Pk.rdS_set _ _ _ _ hat (by rw [← hq]; exact hbl)]] at hact
  have HACT := Lib.hid hact
  have HLS := Lib.hid (Pk.left_set n bs (q + a) hqa hbl (by rw [hgd]; exact hse))
  rw [hse] at sc
  have hPx : x.p.length ≤ 1048576 := HPR.out x (by have := (Pk.fetch_some ef).2.2; exact List.mem_of_getElem? this)
  obtain ⟨ib, io, hA, hil, i0', i1', i2', i3', hig⟩ := Pk.prog_cells2 HP1.out ef
  have hA2 : A = some ⟨ib, io, none⟩ := hA
  have hib : ib < pb := by have := HPB.out; omega
  have j0 : wr.cell? ⟨ib, io + p * 4, none⟩ = some (.int .i64 x.op) := (HB.out.cell (p := ⟨ib, io + p * 4, none⟩) (by show ib < pb + 1; omega)).trans (by simpa using i0')
  have j1 : wr.cell? ⟨ib, io + p * 4 + 1, none⟩ = some (.int .i64 x.x) := (HB.out.cell (p := ⟨ib, io + p * 4 + 1, none⟩) (by show ib < pb + 1; omega)).trans (by simpa using i1')
  have j2 : wr.cell? ⟨ib, io + p * 4 + 2, none⟩ = some (.int .i64 x.y) := (HB.out.cell (p := ⟨ib, io + p * 4 + 2, none⟩) (by show ib < pb + 1; omega)).trans (by simpa using i2')
  have j3 : wr.cell? ⟨ib, io + p * 4 + 3, none⟩ = some (.string ⟨x.p.toArray⟩) := (HB.out.cell (p := ⟨ib, io + p * 4 + 3, none⟩) (by show ib < pb + 1; omega)).trans (by simpa using i3')
  have hibg : ¬ gs = ib := by have := HWx.out.gs0; omega
  have hibr : ib < wr.heap.size := by omega
  clear hA
  subst hA2
  have hpw : IntKind.i64.wrap ((p : Int) + 1) = (p : Int) + 1 := by rw [IntKind.wrap_i64]; omega
  have haw : IntKind.i64.wrap ((a : Int) + 1) = (a : Int) + 1 := by rw [IntKind.wrap_i64]; omega
  clear i0' i1' i2' i3' hact hS hgd hsf hq HSK HBK hig
  obtain ⟨xop, xx, xy, xp⟩ := x
  have hop : xop = 1 := hop
  subst hop
  go_upto_region 14 with fail
  have HF2 : Hid (Pk.Wl (((wr.setCell ⟨gs, q + a, none⟩ (.bool true)).alloc (.cells #[.int .i64 (p : Int), .int .i64 (a : Int), .slice Ar r.length cr] 93)).alloc (.cells #[.int .i64 1, .int .i64 xx, .int .i64 xy, .string ⟨xp.toArray⟩] 57)) (pb + 1) gs j L t (.slice (some ⟨g, 0, none⟩) (ws.length + 1) cl) (⟨(p : Int), a, .slice Ar r.length cr, r⟩ :: ws) (bs.set (q + a) true)) := Lib.hid (((HWx.out.marked (q + a)).keep ((Below.refl _ _).alloc (Nat.le_refl _) _)).keep ((Below.refl _ _).alloc (Nat.le_refl _) _))
  have HB2 : Hid (Below (pb + 1) wb (((wr.setCell ⟨gs, q + a, none⟩ (.bool true)).alloc (.cells #[.int .i64 (p : Int), .int .i64 (a : Int), .slice Ar r.length cr] 93)).alloc (.cells #[.int .i64 1, .int .i64 xx, .int .i64 xy, .string ⟨xp.toArray⟩] 57))) := Lib.hid (((HB.out.setCell (by have := HWx.out.gs0; exact this) _).alloc (by simp [World.setCell]; omega) _).alloc (by simp [World.setCell]; omega) _)
  have hcnt3 : ws.length + 2 * Pk.free n (fun i => (bs.set (q + a) true).getD i false) + 2 ≤ 2 * n + 1 := by have := HLS.out; omega
  by_cases hlt9 : a < t.length
  · have hltI9 : (a : Int) < (t.length : Int) := by omega
    have z0 : a < (⟨t.toArray⟩ : ByteArray).size := by show a < t.toArray.size; simpa using hlt9
    obtain ⟨b, g0⟩ : ∃ b, (⟨t.toArray⟩ : ByteArray)[a]'z0 = b := ⟨_, rfl⟩
    have htk : t[a]? = some b := by rw [List.getElem?_eq_getElem hlt9, ← g0]; rfl
    have HHas : Hid (∀ W, Calls Try.prog 44 #[.string ⟨xp.toArray⟩, .int .u8 (b.toNat : Int)] W fun e W' => e = .returned (.bool (Rx.has xp b)) ∧ Below W.heap.size W W') := Lib.hid (fun W => (pkRefHas_any xp hPx b W).mono fun e W' h => ⟨h.1, h.2 ▸ Below.refl _ _⟩)
    cases hh : Rx.has xp b with
    | true =>
      rw [hh] at HHas
      have HV : Hid (Pk.act t a ⟨1, xx, xy, xp⟩ (p : Int) r = .next) := Lib.hid (by simp [Pk.act, htk, hh])
      clear htk hh
      have y0 : (((wr.setCell ⟨gs, q + a, none⟩ (.bool true)).alloc (.cells #[.int .i64 (p : Int), .int .i64 (a : Int), .slice Ar r.length cr] 93)).alloc (.cells #[.int .i64 1, .int .i64 xx, .int .i64 xy, .string ⟨xp.toArray⟩] 57)).cell? ⟨wr.heap.size, 0, none⟩ = some (.int .i64 (p : Int)) := (World.cell?_alloc_lt _ _ _ (by simp [World.setCell])).trans (((RowAt.new' (by simp [World.setCell])).cell 0).trans rfl)
      have y1 : (((wr.setCell ⟨gs, q + a, none⟩ (.bool true)).alloc (.cells #[.int .i64 (p : Int), .int .i64 (a : Int), .slice Ar r.length cr] 93)).alloc (.cells #[.int .i64 1, .int .i64 xx, .int .i64 xy, .string ⟨xp.toArray⟩] 57)).cell? ⟨wr.heap.size, 1, none⟩ = some (.int .i64 (a : Int)) := (World.cell?_alloc_lt _ _ _ (by simp [World.setCell])).trans (((RowAt.new' (by simp [World.setCell])).cell 1).trans rfl)
      have y2 : (((wr.setCell ⟨gs, q + a, none⟩ (.bool true)).alloc (.cells #[.int .i64 (p : Int), .int .i64 (a : Int), .slice Ar r.length cr] 93)).alloc (.cells #[.int .i64 1, .int .i64 xx, .int .i64 xy, .string ⟨xp.toArray⟩] 57)).cell? ⟨wr.heap.size, 2, none⟩ = some (.slice Ar r.length cr) := (World.cell?_alloc_lt _ _ _ (by simp [World.setCell])).trans (((RowAt.new' (by simp [World.setCell])).cell 2).trans rfl)
      have z3 : (((wr.setCell ⟨gs, q + a, none⟩ (.bool true)).alloc (.cells #[.int .i64 (p : Int), .int .i64 (a : Int), .slice Ar r.length cr] 93)).alloc (.cells #[.int .i64 1, .int .i64 xx, .int .i64 xy, .string ⟨xp.toArray⟩] 57)).cell? ⟨wr.heap.size + 1, 3, none⟩ = some (.string ⟨xp.toArray⟩) := ((RowAt.new' (by simp [World.setCell])).cell 3).trans rfl
      have hx2 : (((wr.setCell ⟨gs, q + a, none⟩ (.bool true)).alloc (.cells #[.int .i64 (p : Int), .int .i64 (a : Int), .slice Ar r.length cr] 93)).alloc (.cells #[.int .i64 1, .int .i64 xx, .int .i64 xy, .string ⟨xp.toArray⟩] 57)).heap.size = wr.heap.size + 1 + 1 := by simp [World.setCell]
      go_wp2_with fail
      generalize (((wr.setCell ⟨gs, q + a, none⟩ (.bool true)).alloc (.cells #[.int .i64 (p : Int), .int .i64 (a : Int), .slice Ar r.length cr] 93)).alloc (.cells #[.int .i64 1, .int .i64 xx, .int .i64 xy, .string ⟨xp.toArray⟩] 57)) = wx at *
      have hx0 : wr.heap.size < wx.heap.size := by omega
      have hx1 : wr.heap.size + 1 < wx.heap.size := by omega
      obtain ⟨kc, kf⟩ := Pk.kgrown2 wx
      refine wp_region_quiet_below (by kernel_rfl) (by kernel_rfl) ?_
      repeat (go_big_quiet_step ((go_at_call 44; exact Calls.regrown_of (HHas.out _))))
      refine wpQuiet_nil ?_
      intro _ hw'
      obtain ⟨⟨dq, osq⟩, hw''⟩ := hw'
      subst hw''
      have hbq := below_regrown wx dq osq
      have HFq := Lib.hid (HF2.out.keep (hbq.mono (Nat.le_refl _)))
      have HBq := Lib.hid (HB2.out.trans (hbq.mono (by omega)))
      have y0q := (hbq.cell (p := ⟨wr.heap.size, 0, none⟩) hx0).trans y0
      have y1q := (hbq.cell (p := ⟨wr.heap.size, 1, none⟩) hx0).trans y1
      have y2q := (hbq.cell (p := ⟨wr.heap.size, 2, none⟩) hx0).trans y2
      have hsq := hbq.size
      clear hbq kc kf y0 y1 y2 z3
      generalize grow (redrawn wx dq) osq = wq at *
      have hq5 : wr.heap.size < wq.heap.size := by omega
      have hROW : Rd wq (fun i => pb + 1 ≤ i ∧ i ≠ gs ∧ (Value.slice (some ⟨g, 0, none⟩) ws.length cl).ownBlock ≠ some i) Ar (iv r) := by
        obtain ⟨A', c', e, hr⟩ := HFq.out.rows _ List.mem_cons_self
        cases e
        exact hr
      have HNEW : Hid (∀ x ∈ ([⟨(p : Int) + 1, a + 1, .slice Ar r.length cr, r⟩] : List Pk.Way), (∃ A c, x.v = .slice A x.r.length c ∧ Rd wq (fun i => pb + 1 ≤ i ∧ i ≠ gs ∧ (Value.slice (some ⟨g, 0, none⟩) ws.length cl).ownBlock ≠ some i) A (iv x.r)) ∧ x.at_ ≤ t.length ∧ x.r.length = j) := Lib.hid fun x hx => by
        simp at hx
        rcases hx with rfl
        exact ⟨⟨Ar, cr, rfl, hROW⟩, by show a + 1 ≤ t.length; omega, HRL.out⟩
      have HOA : Hid ((wq.alloc (.cells #[.int .i64 ((p : Int) + 1), .int .i64 ((a : Int) + 1), .slice Ar r.length cr] 93)).ownsRow (pb + 1) 93 3 (.slice (some ⟨g, 0, none⟩) ws.length cl) ws.length (Pk.wcells ws.reverse)) := Lib.hid (HFq.out.pop.own.alloc _)
      have HRD : Hid (Rd (wq.alloc (.cells #[.int .i64 ((p : Int) + 1), .int .i64 ((a : Int) + 1), .slice Ar r.length cr] 93)) (fun b => b = wq.heap.size) (some ⟨wq.heap.size, 0, none⟩) [.int .i64 ((p : Int) + 1), .int .i64 ((a : Int) + 1), .slice Ar r.length cr]) := Lib.hid (Rd.fresh wq [.int .i64 ((p : Int) + 1), .int .i64 ((a : Int) + 1), .slice Ar r.length cr] 93 _ rfl)
      go_wp2_with (at_builtin; go_must (refine wpList_app _ rfl (.tmp 116) (.tmp 126) 94 rfl (pb + 1) 93 i1 _ 3 40 Try.underlying94 HI1.out HZ1.out.1 HZ1.out.2.1 HZ1.out.2.2 rfl (by decide) (.slice (some ⟨g, 0, none⟩) ws.length cl) ws.length (Pk.wcells ws.reverse) (by simp [Act.eval]) HOA.out (fun b => b = wq.heap.size) (some ⟨wq.heap.size, 0, none⟩) 1 1 [.int .i64 ((p : Int) + 1), .int .i64 ((a : Int) + 1), .slice Ar r.length cr] (by simp [Act.eval]) (by simp) HRD.out (by intro u hu; simp at hu; rcases hu with rfl | rfl | rfl <;> rfl) (by unfold maxLen; omega) (by omega) (by simp; omega) ?_; intro v2 w2 hown2 hg2 hat2 hnil2; have HPU := Lib.hid (Pk.Wl.push HFq.out.pop ((Below.refl _ _).alloc (Nat.le_refl _) (.cells #[.int .i64 ((p : Int) + 1), .int .i64 ((a : Int) + 1), .slice Ar r.length cr] 93)) (new := [⟨(p : Int) + 1, a + 1, .slice Ar r.length cr, r⟩]) hown2 hg2 hat2 HNEW.out); have HBP : Hid (Below (pb + 1) wb w2) := Lib.hid ((HBq.out.alloc (by omega) (.cells #[.int .i64 ((p : Int) + 1), .int .i64 ((a : Int) + 1), .slice Ar r.length cr] 93)).trans ⟨hg2.os, hg2.tape, hg2.output, hg2.size, fun b hb => hg2.block b (by simp; omega) (fun e => by have := (World.ownsRow.lt HOA.out b e.symm).1; omega)⟩); obtain ⟨A2, c2, rfl⟩ := own_form hown2; clear hown2 hg2 hat2 hnil2))
      go_roundw
      case rel => exact ⟨([⟨(p : Int) + 1, a + 1, .slice Ar r.length cr, r⟩] : List Pk.Way).reverse ++ ws, bs.set (q + a) true, ⟨A2, c2, rfl⟩, HPU, HBP, Lib.hid (by rw [← HD1.out, HACT.out, HV.out]; rfl), by show ws.length + 1 + _ ≤ _; omega⟩
      case measure => rw [HPU.out.left, HWx.out.left, ← HNN.out]; show 2 * _ + (ws.length + 1) < 2 * _ + (ws.length + 1); have := HLS.out; omega
    | false =>
      rw [hh] at HHas
      have HV : Hid (Pk.act t a ⟨1, xx, xy, xp⟩ (p : Int) r = .dead) := Lib.hid (by simp [Pk.act, htk, hh])
      clear htk hh
      have y0 : (((wr.setCell ⟨gs, q + a, none⟩ (.bool true)).alloc (.cells #[.int .i64 (p : Int), .int .i64 (a : Int), .slice Ar r.length cr] 93)).alloc (.cells #[.int .i64 1, .int .i64 xx, .int .i64 xy, .string ⟨xp.toArray⟩] 57)).cell? ⟨wr.heap.size, 0, none⟩ = some (.int .i64 (p : Int)) := (World.cell?_alloc_lt _ _ _ (by simp [World.setCell])).trans (((RowAt.new' (by simp [World.setCell])).cell 0).trans rfl)
      have y1 : (((wr.setCell ⟨gs, q + a, none⟩ (.bool true)).alloc (.cells #[.int .i64 (p : Int), .int .i64 (a : Int), .slice Ar r.length cr] 93)).alloc (.cells #[.int .i64 1, .int .i64 xx, .int .i64 xy, .string ⟨xp.toArray⟩] 57)).cell? ⟨wr.heap.size, 1, none⟩ = some (.int .i64 (a : Int)) := (World.cell?_alloc_lt _ _ _ (by simp [World.setCell])).trans (((RowAt.new' (by simp [World.setCell])).cell 1).trans rfl)
      have y2 : (((wr.setCell ⟨gs, q + a, none⟩ (.bool true)).alloc (.cells #[.int .i64 (p : Int), .int .i64 (a : Int), .slice Ar r.length cr] 93)).alloc (.cells #[.int .i64 1, .int .i64 xx, .int .i64 xy, .string ⟨xp.toArray⟩] 57)).cell? ⟨wr.heap.size, 2, none⟩ = some (.slice Ar r.length cr) := (World.cell?_alloc_lt _ _ _ (by simp [World.setCell])).trans (((RowAt.new' (by simp [World.setCell])).cell 2).trans rfl)
      have z3 : (((wr.setCell ⟨gs, q + a, none⟩ (.bool true)).alloc (.cells #[.int .i64 (p : Int), .int .i64 (a : Int), .slice Ar r.length cr] 93)).alloc (.cells #[.int .i64 1, .int .i64 xx, .int .i64 xy, .string ⟨xp.toArray⟩] 57)).cell? ⟨wr.heap.size + 1, 3, none⟩ = some (.string ⟨xp.toArray⟩) := ((RowAt.new' (by simp [World.setCell])).cell 3).trans rfl
      have hx2 : (((wr.setCell ⟨gs, q + a, none⟩ (.bool true)).alloc (.cells #[.int .i64 (p : Int), .int .i64 (a : Int), .slice Ar r.length cr] 93)).alloc (.cells #[.int .i64 1, .int .i64 xx, .int .i64 xy, .string ⟨xp.toArray⟩] 57)).heap.size = wr.heap.size + 1 + 1 := by simp [World.setCell]
      go_wp2_with fail
      generalize (((wr.setCell ⟨gs, q + a, none⟩ (.bool true)).alloc (.cells #[.int .i64 (p : Int), .int .i64 (a : Int), .slice Ar r.length cr] 93)).alloc (.cells #[.int .i64 1, .int .i64 xx, .int .i64 xy, .string ⟨xp.toArray⟩] 57)) = wx at *
      have hx0 : wr.heap.size < wx.heap.size := by omega
      have hx1 : wr.heap.size + 1 < wx.heap.size := by omega
      obtain ⟨kc, kf⟩ := Pk.kgrown2 wx
      refine wp_region_quiet_below (by kernel_rfl) (by kernel_rfl) ?_
      repeat (go_big_quiet_step ((go_at_call 44; exact Calls.regrown_of (HHas.out _))))
      refine wpQuiet_nil ?_
      intro _ hw'
      obtain ⟨⟨dq, osq⟩, hw''⟩ := hw'
      subst hw''
      have hbq := below_regrown wx dq osq
      have HFq := Lib.hid (HF2.out.keep (hbq.mono (Nat.le_refl _)))
      have HBq := Lib.hid (HB2.out.trans (hbq.mono (by omega)))
      have y0q := (hbq.cell (p := ⟨wr.heap.size, 0, none⟩) hx0).trans y0
      have y1q := (hbq.cell (p := ⟨wr.heap.size, 1, none⟩) hx0).trans y1
      have y2q := (hbq.cell (p := ⟨wr.heap.size, 2, none⟩) hx0).trans y2
      have hsq := hbq.size
      clear hbq kc kf y0 y1 y2 z3
      generalize grow (redrawn wx dq) osq = wq at *
      have hq5 : wr.heap.size < wq.heap.size := by omega
      go_wp2_with fail
      go_roundw
      case rel => exact ⟨ws, bs.set (q + a) true, ⟨_, _, rfl⟩, Lib.hid HFq.out.pop, HBq, Lib.hid (by rw [← HD1.out, HACT.out, HV.out]), by omega⟩
      case measure => rw [HFq.out.pop.left, HWx.out.left, ← HNN.out]; show 2 * _ + ws.length < 2 * _ + (ws.length + 1); have := HLS.out; omega
  · have hltI9 : ¬ (a : Int) < (t.length : Int) := by omega
    have htk : t[a]? = none := List.getElem?_eq_none (by omega)
    have HV : Hid (Pk.act t a ⟨1, xx, xy, xp⟩ (p : Int) r = .dead) := Lib.hid (by simp [Pk.act, htk])
    clear htk
    have y0 : (((wr.setCell ⟨gs, q + a, none⟩ (.bool true)).alloc (.cells #[.int .i64 (p : Int), .int .i64 (a : Int), .slice Ar r.length cr] 93)).alloc (.cells #[.int .i64 1, .int .i64 xx, .int .i64 xy, .string ⟨xp.toArray⟩] 57)).cell? ⟨wr.heap.size, 0, none⟩ = some (.int .i64 (p : Int)) := (World.cell?_alloc_lt _ _ _ (by simp [World.setCell])).trans (((RowAt.new' (by simp [World.setCell])).cell 0).trans rfl)
    have y1 : (((wr.setCell ⟨gs, q + a, none⟩ (.bool true)).alloc (.cells #[.int .i64 (p : Int), .int .i64 (a : Int), .slice Ar r.length cr] 93)).alloc (.cells #[.int .i64 1, .int .i64 xx, .int .i64 xy, .string ⟨xp.toArray⟩] 57)).cell? ⟨wr.heap.size, 1, none⟩ = some (.int .i64 (a : Int)) := (World.cell?_alloc_lt _ _ _ (by simp [World.setCell])).trans (((RowAt.new' (by simp [World.setCell])).cell 1).trans rfl)
    have y2 : (((wr.setCell ⟨gs, q + a, none⟩ (.bool true)).alloc (.cells #[.int .i64 (p : Int), .int .i64 (a : Int), .slice Ar r.length cr] 93)).alloc (.cells #[.int .i64 1, .int .i64 xx, .int .i64 xy, .string ⟨xp.toArray⟩] 57)).cell? ⟨wr.heap.size, 2, none⟩ = some (.slice Ar r.length cr) := (World.cell?_alloc_lt _ _ _ (by simp [World.setCell])).trans (((RowAt.new' (by simp [World.setCell])).cell 2).trans rfl)
    have z3 : (((wr.setCell ⟨gs, q + a, none⟩ (.bool true)).alloc (.cells #[.int .i64 (p : Int), .int .i64 (a : Int), .slice Ar r.length cr] 93)).alloc (.cells #[.int .i64 1, .int .i64 xx, .int .i64 xy, .string ⟨xp.toArray⟩] 57)).cell? ⟨wr.heap.size + 1, 3, none⟩ = some (.string ⟨xp.toArray⟩) := ((RowAt.new' (by simp [World.setCell])).cell 3).trans rfl
    have hx2 : (((wr.setCell ⟨gs, q + a, none⟩ (.bool true)).alloc (.cells #[.int .i64 (p : Int), .int .i64 (a : Int), .slice Ar r.length cr] 93)).alloc (.cells #[.int .i64 1, .int .i64 xx, .int .i64 xy, .string ⟨xp.toArray⟩] 57)).heap.size = wr.heap.size + 1 + 1 := by simp [World.setCell]
    go_wp2_with fail
    generalize (((wr.setCell ⟨gs, q + a, none⟩ (.bool true)).alloc (.cells #[.int .i64 (p : Int), .int .i64 (a : Int), .slice Ar r.length cr] 93)).alloc (.cells #[.int .i64 1, .int .i64 xx, .int .i64 xy, .string ⟨xp.toArray⟩] 57)) = wx at *
    have hx0 : wr.heap.size < wx.heap.size := by omega
    have hx1 : wr.heap.size + 1 < wx.heap.size := by omega
    obtain ⟨kc, kf⟩ := Pk.kgrown2 wx
    refine wp_region_quiet_below (by kernel_rfl) (by kernel_rfl) ?_
    repeat (go_big_quiet_step (fail))
    refine wpQuiet_nil ?_
    intro _ hw'
    obtain ⟨⟨dq, osq⟩, hw''⟩ := hw'
    subst hw''
    have hbq := below_regrown wx dq osq
    have HFq := Lib.hid (HF2.out.keep (hbq.mono (Nat.le_refl _)))
    have HBq := Lib.hid (HB2.out.trans (hbq.mono (by omega)))
    have y0q := (hbq.cell (p := ⟨wr.heap.size, 0, none⟩) hx0).trans y0
    have y1q := (hbq.cell (p := ⟨wr.heap.size, 1, none⟩) hx0).trans y1
    have y2q := (hbq.cell (p := ⟨wr.heap.size, 2, none⟩) hx0).trans y2
    have hsq := hbq.size
    clear hbq kc kf y0 y1 y2 z3
    generalize grow (redrawn wx dq) osq = wq at *
    have hq5 : wr.heap.size < wq.heap.size := by omega
    go_wp2_with fail
    go_roundw
    case rel => exact ⟨ws, bs.set (q + a) true, ⟨_, _, rfl⟩, Lib.hid HFq.out.pop, HBq, Lib.hid (by rw [← HD1.out, HACT.out, HV.out]), by omega⟩
    case measure => rw [HFq.out.pop.left, HWx.out.left, ← HNN.out]; show 2 * _ + ws.length < 2 * _ + (ws.length + 1); have := HLS.out; omega
set_option linter.unusedVariables false in
set_option maxRecDepth 1000000 in
set_option maxHeartbeats 200000000 in
theorem walk_op4 {W wb wr : World} {A Av : Option Addr} {cp cv : Nat} {L : List Rx.In} {t : List UInt8} {G k n j pb gs : Nat} {R : Option Pk.Row} {K : Act → World → Prop} {u6 u7 u12 u13 u14 u38 u39 u40 u41 u42 u43 u44 u45 u46 u47 u48 u49 u50 u51 u52 u53 u54 u55 u56 u57 u58 u59 u60 u61 u62 u63 u64 u65 u66 u67 u68 u69 u70 u71 u72 u73 u74 u75 u76 u77 u78 u79 u80 u81 u82 u83 u84 u85 u86 u87 u88 u89 u90 u91 u92 u93 u94 u95 u96 u97 u98 u99 u100 u101 u102 u103 u104 u105 u106 u107 u108 u109 u110 u111 u112 u113 u114 u115 u116 u117 u118 u119 u120 u121 u122 u123 u124 u125 u126 u127 u128 u129 u130 u131 u132 u133 u134 u135 u136 u137 u138 u139 u140 u141 u142 u143 u144 u145 u146 u147 u148 u149 u150 u151 u152 u153 u154 u155 u156 u157 u158 u159 u160 u161 u162 u163 u164 u165 u166 u167 u168 u169 u170 u171 u172 u173 u174 u175 u176 u177 u178 u179 u180 u181 u182 u183 u184 u185 u186 u187 u188 u189 u190 u191 u192 u193 u194 u195 u196 u197 u198 u199 u200 u201 u202 u203 u204 u205 u206 u207 u208 u209 u210 u211 u212 u213 u214 u215 u216 u217 u218 u219 u220 u221 u222 u223 u224 u21 u22 u23 u24 u25 : Value} {ws : List Pk.Way} {bs : List Bool} {Al : Option Addr} {cl a : Nat} {pc : Int} {v : Value} {r : Pk.Row} (hL : L.length ≤ 4096) (ht : t.length ≤ 100000) (hG : G ≤ 1024) (hk : k ≤ t.length) (hGI : (0 : Int) ≤ (G : Int)) (hGI2 : (G : Int) ≤ 1024) (hnb : n ≤ 4096 * 100001) (hnI : (L.length : Int) * ((t.length : Int) + 1) = (n : Int)) (hnw : IntKind.i64.wrap (n : Int) = (n : Int)) (hnwI : (n : Int) ≤ 409604096) (HNN : Hid (n = L.length * (t.length + 1))) (hlt : (t.length : Int) ≤ 100000) (HPR : Hid (∀ x ∈ L, x.p.length ≤ 1048576)) (HPB : Hid (pb = W.heap.size)) (HB0 : Hid (Below W.heap.size W wb)) (HP1 : Hid (Rd wb (fun i => i < W.heap.size) A (icells L))) (hsz : wb.heap.size = pb + 1) (hc1 : wb.cell? ⟨pb, 1, none⟩ = some (.slice A L.length cp)) (hc0 : wb.cell? ⟨pb, 0, none⟩ = some (.int .i64 (G : Int))) (hwI : (2 : Int) * (G : Int) + 2 = (j : Int)) (hw2 : 2 ≤ j) (hw4 : j ≤ 4096) (HW : Hid (Pk.Wl wr (pb + 1) gs j L t (.slice Al (List.length ((⟨pc, a, v, r⟩ : Pk.Way) :: ws)) cl) ((⟨pc, a, v, r⟩ : Pk.Way) :: ws) bs)) (HB : Hid (Below (pb + 1) wb wr)) (HD : Hid ((Pk.dfs L t (Pk.rdS t.length bs) (((⟨pc, a, v, r⟩ : Pk.Way) :: ws).map Pk.Way.ent)).1 = R)) (hcnt : List.length ((⟨pc, a, v, r⟩ : Pk.Way) :: ws) + 2 * Pk.free n (fun i => bs.getD i false) ≤ 2 * n + 1) {x : Rx.In} (ef : Pk.fetch L pc = some x) (hpc0 : 0 ≤ pc) (hpc1 : pc < (L.length : Int)) (hns : Pk.rdS t.length bs pc.toNat a = false) (hop : x.op = 4) : Code.wp Try.prog Pk.wbody (Exit.then (fun a' w' => Pk.WI G A L cp t k pb Av cv j gs n wb R u21 u22 u23 u24 u25 a' w' ∧ Pk.Wmu gs L t a' w' < Pk.Wmu gs L t ⟨#[.agg #[.int .i64 (G : Int), .slice A L.length cp], .string ⟨t.toArray⟩, .int .i64 (k : Int), .pointer (some ⟨pb, 0, none⟩), undef, undef, u6, u7, .slice Av j cv, .int .i64 (j : Int), .slice (some ⟨gs, 0, none⟩) n n, .slice Al (List.length ((⟨pc, a, v, r⟩ : Pk.Way) :: ws)) cl, u12, u13, u14, .int .i64 (j : Int), .pointer (some ⟨pb, 0, none⟩), .int .i64 (G : Int), .int .i64 (2 * (G : Int)), .int .i64 (j : Int), .bool false, u21, u22, u23, u24, u25, .pointer (some ⟨pb, 1, none⟩), .slice A L.length cp, .int .i64 (L.length : Int), .string ⟨t.toArray⟩, .int .i64 (t.length : Int), .int .i64 ((t.length : Int) + 1), .int .i64 (n : Int), .slice (some ⟨gs, 0, none⟩) n n, .int .i64 (k : Int), .slice Av j cv, .agg #[.int .i64 0, .int .i64 (k : Int), .slice Av j cv], .slice (some ⟨gs + 1, 0, none⟩) 1 1, u38, u39, u40, u41, u42, u43, u44, u45, u46, u47, u48, u49, u50, u51, u52, u53, u54, u55, u56, u57, u58, u59, u60, u61, u62, u63, u64, u65, u66, u67, u68, u69, u70, u71, u72, u73, u74, u75, u76, u77, u78, u79, u80, u81, u82, u83, u84, u85, u86, u87, u88, u89, u90, u91, u92, u93, u94, u95, u96, u97, u98, u99, u100, u101, u102, u103, u104, u105, u106, u107, u108, u109, u110, u111, u112, u113, u114, u115, u116, u117, u118, u119, u120, u121, u122, u123, u124, u125, u126, u127, u128, u129, u130, u131, u132, u133, u134, u135, u136, u137, u138, u139, u140, u141, u142, u143, u144, u145, u146, u147, u148, u149, u150, u151, u152, u153, u154, u155, u156, u157, u158, u159, u160, u161, u162, u163, u164, u165, u166, u167, u168, u169, u170, u171, u172, u173, u174, u175, u176, u177, u178, u179, u180, u181, u182, u183, u184, u185, u186, u187, u188, u189, u190, u191, u192, u193, u194, u195, u196, u197, u198, u199, u200, u201, u202, u203, u204, u205, u206, u207, u208, u209, u210, u211, u212, u213, u214, u215, u216, u217, u218, u219, u220, u221, u222, u223, u224], []⟩ wr) (Exit.inBlock 2 (Exit.then K (bodyPost Try.prog Try.f27 (Pk.Walkd W R))))) ⟨#[.agg #[.int .i64 (G : Int), .slice A L.length cp], .string ⟨t.toArray⟩, .int .i64 (k : Int), .pointer (some ⟨pb, 0, none⟩), undef, undef, u6, u7, .slice Av j cv, .int .i64 (j : Int), .slice (some ⟨gs, 0, none⟩) n n, .slice Al (List.length ((⟨pc, a, v, r⟩ : Pk.Way) :: ws)) cl, u12, u13, u14, .int .i64 (j : Int), .pointer (some ⟨pb, 0, none⟩), .int .i64 (G : Int), .int .i64 (2 * (G : Int)), .int .i64 (j : Int), .bool false, u21, u22, u23, u24, u25, .pointer (some ⟨pb, 1, none⟩), .slice A L.length cp, .int .i64 (L.length : Int), .string ⟨t.toArray⟩, .int .i64 (t.length : Int), .int .i64 ((t.length : Int) + 1), .int .i64 (n : Int), .slice (some ⟨gs, 0, none⟩) n n, .int .i64 (k : Int), .slice Av j cv, .agg #[.int .i64 0, .int .i64 (k : Int), .slice Av j cv], .slice (some ⟨gs + 1, 0, none⟩) 1 1, u38, u39, u40, u41, u42, u43, u44, u45, u46, u47, u48, u49, u50, u51, u52, u53, u54, u55, u56, u57, u58, u59, u60, u61, u62, u63, u64, u65, u66, u67, u68, u69, u70, u71, u72, u73, u74, u75, u76, u77, u78, u79, u80, u81, u82, u83, u84, u85, u86, u87, u88, u89, u90, u91, u92, u93, u94, u95, u96, u97, u98, u99, u100, u101, u102, u103, u104, u105, u106, u107, u108, u109, u110, u111, u112, u113, u114, u115, u116, u117, u118, u119, u120, u121, u122, u123, u124, u125, u126, u127, u128, u129, u130, u131, u132, u133, u134, u135, u136, u137, u138, u139, u140, u141, u142, u143, u144, u145, u146, u147, u148, u149, u150, u151, u152, u153, u154, u155, u156, u157, u158, u159, u160, u161, u162, u163, u164, u165, u166, u167, u168, u169, u170, u171, u172, u173, u174, u175, u176, u177, u178, u179, u180, u181, u182, u183, u184, u185, u186, u187, u188, u189, u190, u191, u192, u193, u194, u195, u196, u197, u198, u199, u200, u201, u202, u203, u204, u205, u206, u207, u208, u209, u210, u211, u212, u213, u214, u215, u216, u217, u218, u219, u220, u221, u222, u223, u224], []⟩ wr := by
  obtain ⟨i0, hi0, hz0, hz1, hz2⟩ := info_parts Pk.int_info2
  have HI := Lib.hid hi0
  have HZ := Lib.hid (And.intro hz0 (And.intro hz1 hz2))
  clear hi0 hz0 hz1 hz2
  obtain ⟨i1, hi1, hy0, hy1, hy2⟩ := info_parts Pk.way_info
  have HI1 := Lib.hid hi1
  have HZ1 := Lib.hid (And.intro hy0 (And.intro hy1 hy2))
  clear hi1 hy0 hy1 hy2
  unfold Pk.WI Pk.Wmu
  conv => arg 2; whnf
  try dsimp only
  have e1 : wr.cell? ⟨pb, 1, none⟩ = some (.slice A L.length cp) := (HB.out.cell (p := ⟨pb, 1, none⟩) (by show pb < pb + 1; omega)).trans hc1
  have hsr := HB.out.size
  have hpr : pb < wr.heap.size := by omega
  obtain ⟨Ar, cr, hv, _⟩ := HW.out.rows ⟨pc, a, v, r⟩ List.mem_cons_self
  have hv : v = .slice Ar r.length cr := hv
  subst hv
  have hat : a ≤ t.length := HW.out.at_ ⟨pc, a, _, r⟩ List.mem_cons_self
  have hatI : (a : Int) ≤ (t.length : Int) := by omega
  have HRL : Hid (r.length = j) := Lib.hid (HW.out.rl ⟨pc, a, _, r⟩ List.mem_cons_self)
  have hwl : ws.length ≤ 1000000000 := by have : ws.length + 1 + _ ≤ _ := hcnt; omega
  obtain ⟨g, cap, hlv, hg1, hg2⟩ := own_some HW.out.own (by show 0 < ws.length + 1; omega)
  have hAl : Al = some ⟨g, 0, none⟩ ∧ cl = cap := by cases hlv; exact ⟨rfl, rfl⟩
  obtain ⟨rfl, rfl⟩ := hAl
  have HWx : Hid (Pk.Wl wr (pb + 1) gs j L t (.slice (some ⟨g, 0, none⟩) (ws.length + 1) cl) (⟨pc, a, .slice Ar r.length cr, r⟩ :: ws) bs) := HW
  obtain ⟨k0, k1, k2⟩ := HWx.out.top
  have hcl : ws.length + 1 ≤ cl := by
    rcases HWx.out.own.2 with ⟨e, _⟩ | ⟨g', cap, cur, e, _, _, h3, _⟩
    · cases e
    · cases e; exact h3
  have hgn : ¬ g = gs := fun e => HWx.out.ne (by rw [← e]; rfl)
  have hgn2 : ¬ gs = g := fun e => hgn e.symm
  have hgp : ¬ g = pb := by omega
  have hgsp : ¬ gs = pb := by have := HWx.out.gs0; omega
  have hgsl : gs < wr.heap.size := (Array.getElem?_eq_some_iff.1 HWx.out.seen).1
  have HD1 : Hid ((Pk.dfs L t (Pk.rdS t.length bs) ((pc, a, r) :: ws.map Pk.Way.ent)).1 = R) := HD
  clear HD HW hlv
  have HSK : Hid (Pk.Wl (wr.alloc (.cells #[.int .i64 pc, .int .i64 (a : Int), .slice Ar r.length cr] 93)) (pb + 1) gs j L t (.slice (some ⟨g, 0, none⟩) ws.length cl) ws bs) := Lib.hid (HWx.out.pop.keep ((Below.refl _ _).alloc (Nat.le_refl _) _))
  have HBK : Hid (Below (pb + 1) wb (wr.alloc (.cells #[.int .i64 pc, .int .i64 (a : Int), .slice Ar r.length cr] 93))) := Lib.hid (HB.out.alloc (by omega) _)
  have hcnt2 : ws.length + 2 * Pk.free n (fun i => bs.getD i false) ≤ 2 * n + 1 := by have : ws.length + 1 + _ ≤ _ := hcnt; omega
  have HNN2 := Lib.hid HNN.out
  obtain ⟨p, rfl⟩ : ∃ p : Nat, pc = (p : Int) := ⟨pc.toNat, by omega⟩
  have hp0 : ¬ (p : Int) < 0 := by omega
  have hp1 : ¬ (L.length : Int) ≤ (p : Int) := by omega
  have hpN : p < L.length := by omega
  obtain ⟨q, hq⟩ : ∃ q, q = p * (t.length + 1) := ⟨_, rfl⟩
  have hqI : (p : Int) * ((t.length : Int) + 1) = (q : Int) := by rw [hq]; simp
  have hqa : q + a < n := by rw [hq, HNN.out]; exact Pk.idx_lt hpN hat
  have hqaI : (q : Int) + (a : Int) < (n : Int) := by omega
  have hq0 : (0 : Int) ≤ (q : Int) := by omega
  have hqn : (q : Int) ≤ 409604096 := by omega
  have hbl : q + a < bs.length := by rw [HWx.out.len, ← HNN.out]; exact hqa
  obtain ⟨sc, sf⟩ := HWx.out.cell (q + a) hbl
  have hS : Pk.rdS t.length bs p a = bs.getD (q + a) false := by
    unfold Pk.rdS
    rw [← hq]
    simp [hat]
  have hgd : bs.getD (q + a) false = bs[q + a] := by rw [List.getD_eq_getElem?_getD, List.getElem?_eq_getElem hbl]; rfl
  have hse : bs[q + a] = false := by rw [← hgd, ← hS]; simpa using hns
  have hsf : Pk.rdS t.length bs p a = false := by rw [hS, hgd]; exact hse
  have hact := Pk.dfs_act (L := L) (t := t) (S := Pk.rdS t.length bs) (h := (p : Int)) (k := a) (r := r) (l := ws.map Pk.Way.ent) ef (by rw [Int.toNat_natCast]; exact hsf) hat
  rw [Int.toNat_natCast, show Pk.see (Pk.rdS t.length bs) p a = Pk.rdS t.length (bs.set (q + a) true) by rw [hq, Pk.rdS_set _ _ _ _ hat (by rw [← hq]; exact hbl)]] at hact
  have HACT := Lib.hid hact
  have HLS := Lib.hid (Pk.left_set n bs (q + a) hqa hbl (by rw [hgd]; exact hse))
  rw [hse] at sc
  have hPx : x.p.length ≤ 1048576 := HPR.out x (by have := (Pk.fetch_some ef).2.2; exact List.mem_of_getElem? this)
  obtain ⟨ib, io, hA, hil, i0', i1', i2', i3', hig⟩ := Pk.prog_cells2 HP1.out ef
  have hA2 : A = some ⟨ib, io, none⟩ := hA
  have hib : ib < pb := by have := HPB.out; omega
  have j0 : wr.cell? ⟨ib, io + p * 4, none⟩ = some (.int .i64 x.op) := (HB.out.cell (p := ⟨ib, io + p * 4, none⟩) (by show ib < pb + 1; omega)).trans (by simpa using i0')
  have j1 : wr.cell? ⟨ib, io + p * 4 + 1, none⟩ = some (.int .i64 x.x) := (HB.out.cell (p := ⟨ib, io + p * 4 + 1, none⟩) (by show ib < pb + 1; omega)).trans (by simpa using i1')
  have j2 : wr.cell? ⟨ib, io + p * 4 + 2, none⟩ = some (.int .i64 x.y) := (HB.out.cell (p := ⟨ib, io + p * 4 + 2, none⟩) (by show ib < pb + 1; omega)).trans (by simpa using i2')
  have j3 : wr.cell? ⟨ib, io + p * 4 + 3, none⟩ = some (.string ⟨x.p.toArray⟩) := (HB.out.cell (p := ⟨ib, io + p * 4 + 3, none⟩) (by show ib < pb + 1; omega)).trans (by simpa using i3')
  have hibg : ¬ gs = ib := by have := HWx.out.gs0; omega
  have hibr : ib < wr.heap.size := by omega
  clear hA
  subst hA2
  have hpw : IntKind.i64.wrap ((p : Int) + 1) = (p : Int) + 1 := by rw [IntKind.wrap_i64]; omega
  have haw : IntKind.i64.wrap ((a : Int) + 1) = (a : Int) + 1 := by rw [IntKind.wrap_i64]; omega
  clear i0' i1' i2' i3' hact hS hgd hsf hq HSK HBK hig
  obtain ⟨xop, xx, xy, xp⟩ := x
  have hop : xop = 4 := hop
  subst hop
  go_upto_region 14 with fail
  have HF2 : Hid (Pk.Wl (((wr.setCell ⟨gs, q + a, none⟩ (.bool true)).alloc (.cells #[.int .i64 (p : Int), .int .i64 (a : Int), .slice Ar r.length cr] 93)).alloc (.cells #[.int .i64 4, .int .i64 xx, .int .i64 xy, .string ⟨xp.toArray⟩] 57)) (pb + 1) gs j L t (.slice (some ⟨g, 0, none⟩) (ws.length + 1) cl) (⟨(p : Int), a, .slice Ar r.length cr, r⟩ :: ws) (bs.set (q + a) true)) := Lib.hid (((HWx.out.marked (q + a)).keep ((Below.refl _ _).alloc (Nat.le_refl _) _)).keep ((Below.refl _ _).alloc (Nat.le_refl _) _))
  have HB2 : Hid (Below (pb + 1) wb (((wr.setCell ⟨gs, q + a, none⟩ (.bool true)).alloc (.cells #[.int .i64 (p : Int), .int .i64 (a : Int), .slice Ar r.length cr] 93)).alloc (.cells #[.int .i64 4, .int .i64 xx, .int .i64 xy, .string ⟨xp.toArray⟩] 57))) := Lib.hid (((HB.out.setCell (by have := HWx.out.gs0; exact this) _).alloc (by simp [World.setCell]; omega) _).alloc (by simp [World.setCell]; omega) _)
  have hcnt3 : ws.length + 2 * Pk.free n (fun i => (bs.set (q + a) true).getD i false) + 2 ≤ 2 * n + 1 := by have := HLS.out; omega
  have hx2 : (((wr.setCell ⟨gs, q + a, none⟩ (.bool true)).alloc (.cells #[.int .i64 (p : Int), .int .i64 (a : Int), .slice Ar r.length cr] 93)).alloc (.cells #[.int .i64 4, .int .i64 xx, .int .i64 xy, .string ⟨xp.toArray⟩] 57)).heap.size = wr.heap.size + 1 + 1 := by simp [World.setCell]
  have y0 : (((wr.setCell ⟨gs, q + a, none⟩ (.bool true)).alloc (.cells #[.int .i64 (p : Int), .int .i64 (a : Int), .slice Ar r.length cr] 93)).alloc (.cells #[.int .i64 4, .int .i64 xx, .int .i64 xy, .string ⟨xp.toArray⟩] 57)).cell? ⟨wr.heap.size, 0, none⟩ = some (.int .i64 (p : Int)) := (World.cell?_alloc_lt _ _ _ (by simp [World.setCell])).trans (((RowAt.new' (by simp [World.setCell])).cell 0).trans rfl)
  have y1 : (((wr.setCell ⟨gs, q + a, none⟩ (.bool true)).alloc (.cells #[.int .i64 (p : Int), .int .i64 (a : Int), .slice Ar r.length cr] 93)).alloc (.cells #[.int .i64 4, .int .i64 xx, .int .i64 xy, .string ⟨xp.toArray⟩] 57)).cell? ⟨wr.heap.size, 1, none⟩ = some (.int .i64 (a : Int)) := (World.cell?_alloc_lt _ _ _ (by simp [World.setCell])).trans (((RowAt.new' (by simp [World.setCell])).cell 1).trans rfl)
  have z1 : (((wr.setCell ⟨gs, q + a, none⟩ (.bool true)).alloc (.cells #[.int .i64 (p : Int), .int .i64 (a : Int), .slice Ar r.length cr] 93)).alloc (.cells #[.int .i64 4, .int .i64 xx, .int .i64 xy, .string ⟨xp.toArray⟩] 57)).cell? ⟨wr.heap.size + 1, 1, none⟩ = some (.int .i64 xx) := ((RowAt.new' (by simp [World.setCell])).cell 1).trans rfl
  have hROW : Rd (((wr.setCell ⟨gs, q + a, none⟩ (.bool true)).alloc (.cells #[.int .i64 (p : Int), .int .i64 (a : Int), .slice Ar r.length cr] 93)).alloc (.cells #[.int .i64 4, .int .i64 xx, .int .i64 xy, .string ⟨xp.toArray⟩] 57)) (fun i => pb + 1 ≤ i ∧ i ≠ gs ∧ (Value.slice (some ⟨g, 0, none⟩) ws.length cl).ownBlock ≠ some i) Ar (iv r) := by
    obtain ⟨A', c', e, hr⟩ := HF2.out.rows _ List.mem_cons_self
    cases e
    exact hr
  have hr2 : 0 < r.length := by have := HRL.out; omega
  have hr3 : r.length ≤ 4096 := by have := HRL.out; omega
  have HOE : Hid (((((wr.setCell ⟨gs, q + a, none⟩ (.bool true)).alloc (.cells #[.int .i64 (p : Int), .int .i64 (a : Int), .slice Ar r.length cr] 93)).alloc (.cells #[.int .i64 4, .int .i64 xx, .int .i64 xy, .string ⟨xp.toArray⟩] 57)).alloc (.cells #[] 3)).ownsRow (pb + 1) 3 1 (.slice (some ⟨wr.heap.size + 1 + 1, 0, none⟩) 0 0) 0 []) := Lib.hid ⟨by simp, .inr ⟨wr.heap.size + 1 + 1, 0, #[], rfl, by omega, Pk.hnew2 (by simp [World.setCell]), Nat.le_refl _, Nat.zero_le _, rfl, rfl⟩⟩
  have HRE : Hid (Rd ((((wr.setCell ⟨gs, q + a, none⟩ (.bool true)).alloc (.cells #[.int .i64 (p : Int), .int .i64 (a : Int), .slice Ar r.length cr] 93)).alloc (.cells #[.int .i64 4, .int .i64 xx, .int .i64 xy, .string ⟨xp.toArray⟩] 57)).alloc (.cells #[] 3)) (fun i => pb + 1 ≤ i ∧ i ≠ gs ∧ (Value.slice (some ⟨g, 0, none⟩) ws.length cl).ownBlock ≠ some i) Ar (iv r)) := Lib.hid (hROW.below ((Below.refl _ _).alloc (Nat.le_refl _) _))
  have Y0 := Lib.hid y0
  have Y1 := Lib.hid y1
  have Z1 := Lib.hid z1
  have hl1 : 0 + r.length ≤ maxLen := by unfold maxLen; omega
  clear y0 y1 z1 hROW
  by_cases hin : 0 ≤ xx ∧ xx < (r.length : Int)
  · obtain ⟨hn0, hn1⟩ := hin
    have hxr : xx.toNat < r.length := by omega
    have HPT : Hid (Pk.put r xx a = r.set xx.toNat (a : Int)) := Lib.hid (by unfold Pk.put; rw [if_pos ⟨hn0, hn1⟩])
    have HV : Hid (Pk.act t a ⟨4, xx, xy, xp⟩ (p : Int) r = .go [((p : Int) + 1, Pk.put r xx a)]) := Lib.hid (by simp [Pk.act])
    go_wp2_with first
      | (at_builtin; refine wpList_app _ rfl (.tmp 161) (.tmp 163) 28 rfl (pb + 1) 3 i0 _ 1 8 Try.underlying28 HI.out HZ.out.1 HZ.out.2.1 HZ.out.2.2 rfl (by decide) (.slice (some ⟨wr.heap.size + 1 + 1, 0, none⟩) 0 0) 0 [] (by simp [Act.eval]) HOE.out (fun i => pb + 1 ≤ i ∧ i ≠ gs ∧ (Value.slice (some ⟨g, 0, none⟩) ws.length cl).ownBlock ≠ some i) Ar r.length cr (iv r) (by simp [Act.eval]) (by rw [iv_len]; omega) HRE.out (iv_one r) hl1 (by omega) (by simp [World.setCell]; omega) ?_; intro v2 w2 hown2 hg2 hat2 hnil2; have hown2 : w2.ownsRow (pb + 1) 3 1 v2 r.length (iv r) := (by simpa using hown2); obtain ⟨g2, c2, rfl, hga, hgb⟩ := own_some hown2 hr2; have hg2n : wr.heap.size + 1 + 1 ≤ g2 := hat2.elim (fun e => by have e : some g2 = some (wr.heap.size + 1 + 1) := e; have := Option.some.inj e; omega) (fun e => by have e : some g2 = some ((((wr.setCell ⟨gs, q + a, none⟩ (.bool true)).alloc (.cells #[.int .i64 (p : Int), .int .i64 (a : Int), .slice Ar r.length cr] 93)).alloc (.cells #[.int .i64 4, .int .i64 xx, .int .i64 xy, .string ⟨xp.toArray⟩] 57)).alloc (.cells #[] 3)).heap.size := e; have := Option.some.inj e; rw [this]; simp [World.setCell]); have hbz : Below (wr.heap.size + 1 + 1) (((wr.setCell ⟨gs, q + a, none⟩ (.bool true)).alloc (.cells #[.int .i64 (p : Int), .int .i64 (a : Int), .slice Ar r.length cr] 93)).alloc (.cells #[.int .i64 4, .int .i64 xx, .int .i64 xy, .string ⟨xp.toArray⟩] 57)) w2 := ((Below.refl _ (((wr.setCell ⟨gs, q + a, none⟩ (.bool true)).alloc (.cells #[.int .i64 (p : Int), .int .i64 (a : Int), .slice Ar r.length cr] 93)).alloc (.cells #[.int .i64 4, .int .i64 xx, .int .i64 xy, .string ⟨xp.toArray⟩] 57))).alloc (by omega) (.cells #[] 3)).trans ⟨hg2.os, hg2.tape, hg2.output, hg2.size, fun b hb => hg2.block b (by simp [World.setCell]; omega) (fun e => by have e : some b = some (wr.heap.size + 1 + 1) := e; have := Option.some.inj e; omega)⟩; have u0 : w2.cell? ⟨wr.heap.size, 0, none⟩ = some (.int .i64 (p : Int)) := (hbz.cell (p := ⟨wr.heap.size, 0, none⟩) (by show wr.heap.size < _; omega)).trans Y0.out; have u1 : w2.cell? ⟨wr.heap.size, 1, none⟩ = some (.int .i64 (a : Int)) := (hbz.cell (p := ⟨wr.heap.size, 1, none⟩) (by show wr.heap.size < _; omega)).trans Y1.out; have t1 : w2.cell? ⟨wr.heap.size + 1, 1, none⟩ = some (.int .i64 xx) := (hbz.cell (p := ⟨wr.heap.size + 1, 1, none⟩) (by show wr.heap.size + 1 < _; omega)).trans Z1.out; have hsz2 := hbz.size; have hci : w2.cell? ⟨g2, xx.toNat, none⟩ = some (.int .i64 (r[xx.toNat]'hxr)) := (by rw [World.ownsRow.cellAt hown2 _ (by omega), iv_get _ _ hxr]); have hcf : w2.frozen? ⟨g2, xx.toNat, none⟩ = false := World.ownsRow.frozenAt hown2 _; have hstd := (World.ownsRow.stored hown2 xx.toNat (.int .i64 (a : Int))).1; have hst2 : (w2.setCell ⟨g2, xx.toNat, none⟩ (.int .i64 (a : Int))).ownsRow (pb + 1) 3 1 (.slice (some ⟨g2, 0, none⟩) r.length c2) r.length (iv (Pk.put r xx a)) := (by rw [HPT.out, ← iv_set]; exact hstd); have hbw : Below (wr.heap.size + 1 + 1) (((wr.setCell ⟨gs, q + a, none⟩ (.bool true)).alloc (.cells #[.int .i64 (p : Int), .int .i64 (a : Int), .slice Ar r.length cr] 93)).alloc (.cells #[.int .i64 4, .int .i64 xx, .int .i64 xy, .string ⟨xp.toArray⟩] 57)) (w2.setCell ⟨g2, xx.toNat, none⟩ (.int .i64 (a : Int))) := hbz.setCell (by exact hg2n) _; clear hstd; have hkz := HF2.out.keep (hbw.mono (by simp [World.setCell])); have HFz := Lib.hid hkz; have HBz : Hid (Below (pb + 1) wb (w2.setCell ⟨g2, xx.toNat, none⟩ (.int .i64 (a : Int)))) := Lib.hid (HB2.out.trans (hbw.mono (by omega))); have hszz : wr.heap.size + 1 + 1 ≤ ((w2.setCell ⟨g2, xx.toNat, none⟩ (.int .i64 (a : Int)))).heap.size := (by have := hbw.size; simp [World.setCell] at this ⊢; omega); have hrz : Rd (w2.setCell ⟨g2, xx.toNat, none⟩ (.int .i64 (a : Int))) (fun i => pb + 1 ≤ i ∧ i ≠ gs ∧ (Value.slice (some ⟨g, 0, none⟩) ws.length cl).ownBlock ≠ some i) (some ⟨g2, 0, none⟩) (iv (Pk.put r xx a)) := (fun hn => by have h2 : (w2.setCell ⟨g2, xx.toNat, none⟩ (.int .i64 (a : Int))).ownsRow (pb + 1) 3 1 (.slice (some ⟨g2, 0, none⟩) r.length c2) r.length (iv (Pk.put r xx a)) := hst2; obtain ⟨ad, e, q1, q2, q3⟩ := (Rd.own h2) hn; cases e; exact ⟨_, rfl, q1, ⟨by show pb + 1 ≤ g2; omega, by show g2 ≠ gs; omega, fun e => by have e : some g = some g2 := e; have := Option.some.inj e; omega⟩, q3⟩); have HNEW : Hid (∀ x ∈ ([⟨(p : Int) + 1, a, .slice (some ⟨g2, 0, none⟩) r.length c2, Pk.put r xx a⟩] : List Pk.Way), (∃ A c, x.v = .slice A x.r.length c ∧ Rd (w2.setCell ⟨g2, xx.toNat, none⟩ (.int .i64 (a : Int))) (fun i => pb + 1 ≤ i ∧ i ≠ gs ∧ (Value.slice (some ⟨g, 0, none⟩) ws.length cl).ownBlock ≠ some i) A (iv x.r)) ∧ x.at_ ≤ t.length ∧ x.r.length = j) := Lib.hid (fun x hx => by simp at hx; rcases hx with rfl; exact ⟨⟨_, c2, (by show Value.slice _ _ _ = Value.slice _ (Pk.put r xx a).length _; rw [Pk.put_len]), hrz⟩, hat, (by show (Pk.put r xx a).length = j; rw [Pk.put_len]; exact HRL.out)⟩); have HOA : Hid (((w2.setCell ⟨g2, xx.toNat, none⟩ (.int .i64 (a : Int))).alloc (.cells #[.int .i64 ((p : Int) + 1), .int .i64 (a : Int), .slice (some ⟨g2, 0, none⟩) r.length c2] 93)).ownsRow (pb + 1) 93 3 (.slice (some ⟨g, 0, none⟩) ws.length cl) ws.length (Pk.wcells ws.reverse)) := Lib.hid (hkz.pop.own.alloc _); have HRD : Hid (Rd ((w2.setCell ⟨g2, xx.toNat, none⟩ (.int .i64 (a : Int))).alloc (.cells #[.int .i64 ((p : Int) + 1), .int .i64 (a : Int), .slice (some ⟨g2, 0, none⟩) r.length c2] 93)) (fun b => b = w2.heap.size) (some ⟨w2.heap.size, 0, none⟩) [.int .i64 ((p : Int) + 1), .int .i64 (a : Int), .slice (some ⟨g2, 0, none⟩) r.length c2]) := Lib.hid (Rd.fresh (w2.setCell ⟨g2, xx.toNat, none⟩ (.int .i64 (a : Int))) [.int .i64 ((p : Int) + 1), .int .i64 (a : Int), .slice (some ⟨g2, 0, none⟩) r.length c2] 93 _ (by simp [World.setCell])); clear hst2 hbw hkz hrz; clear hown2 hg2 hat2 hnil2 hbz)
      | (at_builtin; go_must (refine wpList_app _ rfl (.tmp 181) (.tmp 189) 94 rfl (pb + 1) 93 i1 _ 3 40 Try.underlying94 HI1.out HZ1.out.1 HZ1.out.2.1 HZ1.out.2.2 rfl (by decide) (.slice (some ⟨g, 0, none⟩) ws.length cl) ws.length (Pk.wcells ws.reverse) (by simp [Act.eval]) HOA.out (fun b => b = w2.heap.size) (some ⟨w2.heap.size, 0, none⟩) 1 1 [.int .i64 ((p : Int) + 1), .int .i64 (a : Int), .slice (some ⟨g2, 0, none⟩) r.length c2] (by simp [Act.eval]) (by simp) HRD.out (by intro u hu; simp at hu; rcases hu with rfl | rfl | rfl <;> rfl) (by unfold maxLen; omega) (by omega) (by simp [World.setCell]; omega) ?_; intro v5 w5 hown5 hg5 hat5 hnil5; have HPU := Lib.hid (Pk.Wl.push HFz.out.pop ((Below.refl _ _).alloc (Nat.le_refl _) (.cells #[.int .i64 ((p : Int) + 1), .int .i64 (a : Int), .slice (some ⟨g2, 0, none⟩) r.length c2] 93)) (new := [⟨(p : Int) + 1, a, .slice (some ⟨g2, 0, none⟩) r.length c2, Pk.put r xx a⟩]) hown5 hg5 hat5 HNEW.out); have HBP : Hid (Below (pb + 1) wb w5) := Lib.hid ((HBz.out.alloc (by omega) (.cells #[.int .i64 ((p : Int) + 1), .int .i64 (a : Int), .slice (some ⟨g2, 0, none⟩) r.length c2] 93)).trans ⟨hg5.os, hg5.tape, hg5.output, hg5.size, fun b hb => hg5.block b (by simp [World.setCell]; omega) (fun e => by have := (World.ownsRow.lt HOA.out b e.symm).1; omega)⟩); obtain ⟨A5, c5, rfl⟩ := own_form hown5; clear hown5 hg5 hat5 hnil5))
    go_roundw
    case rel => exact ⟨([⟨(p : Int) + 1, a, .slice (some ⟨g2, 0, none⟩) r.length c2, Pk.put r xx a⟩] : List Pk.Way).reverse ++ ws, bs.set (q + a) true, ⟨A5, c5, rfl⟩, HPU, HBP, Lib.hid (by rw [← HD1.out, HACT.out, HV.out]; rfl), by show ws.length + 1 + _ ≤ _; omega⟩
    case measure => rw [HPU.out.left, HWx.out.left, ← HNN.out]; show 2 * _ + (ws.length + 1) < 2 * _ + (ws.length + 1); have := HLS.out; omega
  · have HPO : Hid (Pk.put r xx a = r) := Lib.hid (by unfold Pk.put; rw [if_neg hin])
    have HV : Hid (Pk.act t a ⟨4, xx, xy, xp⟩ (p : Int) r = .go [((p : Int) + 1, r)]) := Lib.hid (by simp [Pk.act, HPO.out])
    by_cases hn0 : 0 ≤ xx
    · have hn1 : ¬ xx < (r.length : Int) := by omega
      clear hin
      go_wp2_with first
        | (at_builtin; refine wpList_app _ rfl (.tmp 161) (.tmp 163) 28 rfl (pb + 1) 3 i0 _ 1 8 Try.underlying28 HI.out HZ.out.1 HZ.out.2.1 HZ.out.2.2 rfl (by decide) (.slice (some ⟨wr.heap.size + 1 + 1, 0, none⟩) 0 0) 0 [] (by simp [Act.eval]) HOE.out (fun i => pb + 1 ≤ i ∧ i ≠ gs ∧ (Value.slice (some ⟨g, 0, none⟩) ws.length cl).ownBlock ≠ some i) Ar r.length cr (iv r) (by simp [Act.eval]) (by rw [iv_len]; omega) HRE.out (iv_one r) hl1 (by omega) (by simp [World.setCell]; omega) ?_; intro v2 w2 hown2 hg2 hat2 hnil2; have hown2 : w2.ownsRow (pb + 1) 3 1 v2 r.length (iv r) := (by simpa using hown2); obtain ⟨g2, c2, rfl, hga, hgb⟩ := own_some hown2 hr2; have hg2n : wr.heap.size + 1 + 1 ≤ g2 := hat2.elim (fun e => by have e : some g2 = some (wr.heap.size + 1 + 1) := e; have := Option.some.inj e; omega) (fun e => by have e : some g2 = some ((((wr.setCell ⟨gs, q + a, none⟩ (.bool true)).alloc (.cells #[.int .i64 (p : Int), .int .i64 (a : Int), .slice Ar r.length cr] 93)).alloc (.cells #[.int .i64 4, .int .i64 xx, .int .i64 xy, .string ⟨xp.toArray⟩] 57)).alloc (.cells #[] 3)).heap.size := e; have := Option.some.inj e; rw [this]; simp [World.setCell]); have hbz : Below (wr.heap.size + 1 + 1) (((wr.setCell ⟨gs, q + a, none⟩ (.bool true)).alloc (.cells #[.int .i64 (p : Int), .int .i64 (a : Int), .slice Ar r.length cr] 93)).alloc (.cells #[.int .i64 4, .int .i64 xx, .int .i64 xy, .string ⟨xp.toArray⟩] 57)) w2 := ((Below.refl _ (((wr.setCell ⟨gs, q + a, none⟩ (.bool true)).alloc (.cells #[.int .i64 (p : Int), .int .i64 (a : Int), .slice Ar r.length cr] 93)).alloc (.cells #[.int .i64 4, .int .i64 xx, .int .i64 xy, .string ⟨xp.toArray⟩] 57))).alloc (by omega) (.cells #[] 3)).trans ⟨hg2.os, hg2.tape, hg2.output, hg2.size, fun b hb => hg2.block b (by simp [World.setCell]; omega) (fun e => by have e : some b = some (wr.heap.size + 1 + 1) := e; have := Option.some.inj e; omega)⟩; have u0 : w2.cell? ⟨wr.heap.size, 0, none⟩ = some (.int .i64 (p : Int)) := (hbz.cell (p := ⟨wr.heap.size, 0, none⟩) (by show wr.heap.size < _; omega)).trans Y0.out; have u1 : w2.cell? ⟨wr.heap.size, 1, none⟩ = some (.int .i64 (a : Int)) := (hbz.cell (p := ⟨wr.heap.size, 1, none⟩) (by show wr.heap.size < _; omega)).trans Y1.out; have t1 : w2.cell? ⟨wr.heap.size + 1, 1, none⟩ = some (.int .i64 xx) := (hbz.cell (p := ⟨wr.heap.size + 1, 1, none⟩) (by show wr.heap.size + 1 < _; omega)).trans Z1.out; have hsz2 := hbz.size; have hst2 : w2.ownsRow (pb + 1) 3 1 (.slice (some ⟨g2, 0, none⟩) r.length c2) r.length (iv r) := hown2; have hbw := hbz; have hkz := HF2.out.keep (hbw.mono (by simp [World.setCell])); have HFz := Lib.hid hkz; have HBz : Hid (Below (pb + 1) wb w2) := Lib.hid (HB2.out.trans (hbw.mono (by omega))); have hszz : wr.heap.size + 1 + 1 ≤ (w2).heap.size := (by have := hbw.size; simp [World.setCell] at this ⊢; omega); have hrz : Rd w2 (fun i => pb + 1 ≤ i ∧ i ≠ gs ∧ (Value.slice (some ⟨g, 0, none⟩) ws.length cl).ownBlock ≠ some i) (some ⟨g2, 0, none⟩) (iv (r)) := (fun hn => by have h2 : w2.ownsRow (pb + 1) 3 1 (.slice (some ⟨g2, 0, none⟩) r.length c2) r.length (iv (r)) := hst2; obtain ⟨ad, e, q1, q2, q3⟩ := (Rd.own h2) hn; cases e; exact ⟨_, rfl, q1, ⟨by show pb + 1 ≤ g2; omega, by show g2 ≠ gs; omega, fun e => by have e : some g = some g2 := e; have := Option.some.inj e; omega⟩, q3⟩); have HNEW : Hid (∀ x ∈ ([⟨(p : Int) + 1, a, .slice (some ⟨g2, 0, none⟩) r.length c2, r⟩] : List Pk.Way), (∃ A c, x.v = .slice A x.r.length c ∧ Rd w2 (fun i => pb + 1 ≤ i ∧ i ≠ gs ∧ (Value.slice (some ⟨g, 0, none⟩) ws.length cl).ownBlock ≠ some i) A (iv x.r)) ∧ x.at_ ≤ t.length ∧ x.r.length = j) := Lib.hid (fun x hx => by simp at hx; rcases hx with rfl; exact ⟨⟨_, c2, rfl, hrz⟩, hat, HRL.out⟩); have HOA : Hid ((w2.alloc (.cells #[.int .i64 ((p : Int) + 1), .int .i64 (a : Int), .slice (some ⟨g2, 0, none⟩) r.length c2] 93)).ownsRow (pb + 1) 93 3 (.slice (some ⟨g, 0, none⟩) ws.length cl) ws.length (Pk.wcells ws.reverse)) := Lib.hid (hkz.pop.own.alloc _); have HRD : Hid (Rd (w2.alloc (.cells #[.int .i64 ((p : Int) + 1), .int .i64 (a : Int), .slice (some ⟨g2, 0, none⟩) r.length c2] 93)) (fun b => b = w2.heap.size) (some ⟨w2.heap.size, 0, none⟩) [.int .i64 ((p : Int) + 1), .int .i64 (a : Int), .slice (some ⟨g2, 0, none⟩) r.length c2]) := Lib.hid (Rd.fresh w2 [.int .i64 ((p : Int) + 1), .int .i64 (a : Int), .slice (some ⟨g2, 0, none⟩) r.length c2] 93 _ (by simp [World.setCell])); clear hst2 hbw hkz hrz; clear hown2 hg2 hat2 hnil2 hbz)
        | (at_builtin; go_must (refine wpList_app _ rfl (.tmp 181) (.tmp 189) 94 rfl (pb + 1) 93 i1 _ 3 40 Try.underlying94 HI1.out HZ1.out.1 HZ1.out.2.1 HZ1.out.2.2 rfl (by decide) (.slice (some ⟨g, 0, none⟩) ws.length cl) ws.length (Pk.wcells ws.reverse) (by simp [Act.eval]) HOA.out (fun b => b = w2.heap.size) (some ⟨w2.heap.size, 0, none⟩) 1 1 [.int .i64 ((p : Int) + 1), .int .i64 (a : Int), .slice (some ⟨g2, 0, none⟩) r.length c2] (by simp [Act.eval]) (by simp) HRD.out (by intro u hu; simp at hu; rcases hu with rfl | rfl | rfl <;> rfl) (by unfold maxLen; omega) (by omega) (by simp [World.setCell]; omega) ?_; intro v5 w5 hown5 hg5 hat5 hnil5; have HPU := Lib.hid (Pk.Wl.push HFz.out.pop ((Below.refl _ _).alloc (Nat.le_refl _) (.cells #[.int .i64 ((p : Int) + 1), .int .i64 (a : Int), .slice (some ⟨g2, 0, none⟩) r.length c2] 93)) (new := [⟨(p : Int) + 1, a, .slice (some ⟨g2, 0, none⟩) r.length c2, r⟩]) hown5 hg5 hat5 HNEW.out); have HBP : Hid (Below (pb + 1) wb w5) := Lib.hid ((HBz.out.alloc (by omega) (.cells #[.int .i64 ((p : Int) + 1), .int .i64 (a : Int), .slice (some ⟨g2, 0, none⟩) r.length c2] 93)).trans ⟨hg5.os, hg5.tape, hg5.output, hg5.size, fun b hb => hg5.block b (by simp [World.setCell]; omega) (fun e => by have := (World.ownsRow.lt HOA.out b e.symm).1; omega)⟩); obtain ⟨A5, c5, rfl⟩ := own_form hown5; clear hown5 hg5 hat5 hnil5))
      go_roundw
      case rel => exact ⟨([⟨(p : Int) + 1, a, .slice (some ⟨g2, 0, none⟩) r.length c2, r⟩] : List Pk.Way).reverse ++ ws, bs.set (q + a) true, ⟨A5, c5, rfl⟩, HPU, HBP, Lib.hid (by rw [← HD1.out, HACT.out, HV.out]; rfl), by show ws.length + 1 + _ ≤ _; omega⟩
      case measure => rw [HPU.out.left, HWx.out.left, ← HNN.out]; show 2 * _ + (ws.length + 1) < 2 * _ + (ws.length + 1); have := HLS.out; omega
    · clear hin
      go_wp2_with first
        | (at_builtin; refine wpList_app _ rfl (.tmp 161) (.tmp 163) 28 rfl (pb + 1) 3 i0 _ 1 8 Try.underlying28 HI.out HZ.out.1 HZ.out.2.1 HZ.out.2.2 rfl (by decide) (.slice (some ⟨wr.heap.size + 1 + 1, 0, none⟩) 0 0) 0 [] (by simp [Act.eval]) HOE.out (fun i => pb + 1 ≤ i ∧ i ≠ gs ∧ (Value.slice (some ⟨g, 0, none⟩) ws.length cl).ownBlock ≠ some i) Ar r.length cr (iv r) (by simp [Act.eval]) (by rw [iv_len]; omega) HRE.out (iv_one r) hl1 (by omega) (by simp [World.setCell]; omega) ?_; intro v2 w2 hown2 hg2 hat2 hnil2; have hown2 : w2.ownsRow (pb + 1) 3 1 v2 r.length (iv r) := (by simpa using hown2); obtain ⟨g2, c2, rfl, hga, hgb⟩ := own_some hown2 hr2; have hg2n : wr.heap.size + 1 + 1 ≤ g2 := hat2.elim (fun e => by have e : some g2 = some (wr.heap.size + 1 + 1) := e; have := Option.some.inj e; omega) (fun e => by have e : some g2 = some ((((wr.setCell ⟨gs, q + a, none⟩ (.bool true)).alloc (.cells #[.int .i64 (p : Int), .int .i64 (a : Int), .slice Ar r.length cr] 93)).alloc (.cells #[.int .i64 4, .int .i64 xx, .int .i64 xy, .string ⟨xp.toArray⟩] 57)).alloc (.cells #[] 3)).heap.size := e; have := Option.some.inj e; rw [this]; simp [World.setCell]); have hbz : Below (wr.heap.size + 1 + 1) (((wr.setCell ⟨gs, q + a, none⟩ (.bool true)).alloc (.cells #[.int .i64 (p : Int), .int .i64 (a : Int), .slice Ar r.length cr] 93)).alloc (.cells #[.int .i64 4, .int .i64 xx, .int .i64 xy, .string ⟨xp.toArray⟩] 57)) w2 := ((Below.refl _ (((wr.setCell ⟨gs, q + a, none⟩ (.bool true)).alloc (.cells #[.int .i64 (p : Int), .int .i64 (a : Int), .slice Ar r.length cr] 93)).alloc (.cells #[.int .i64 4, .int .i64 xx, .int .i64 xy, .string ⟨xp.toArray⟩] 57))).alloc (by omega) (.cells #[] 3)).trans ⟨hg2.os, hg2.tape, hg2.output, hg2.size, fun b hb => hg2.block b (by simp [World.setCell]; omega) (fun e => by have e : some b = some (wr.heap.size + 1 + 1) := e; have := Option.some.inj e; omega)⟩; have u0 : w2.cell? ⟨wr.heap.size, 0, none⟩ = some (.int .i64 (p : Int)) := (hbz.cell (p := ⟨wr.heap.size, 0, none⟩) (by show wr.heap.size < _; omega)).trans Y0.out; have u1 : w2.cell? ⟨wr.heap.size, 1, none⟩ = some (.int .i64 (a : Int)) := (hbz.cell (p := ⟨wr.heap.size, 1, none⟩) (by show wr.heap.size < _; omega)).trans Y1.out; have t1 : w2.cell? ⟨wr.heap.size + 1, 1, none⟩ = some (.int .i64 xx) := (hbz.cell (p := ⟨wr.heap.size + 1, 1, none⟩) (by show wr.heap.size + 1 < _; omega)).trans Z1.out; have hsz2 := hbz.size; have hst2 : w2.ownsRow (pb + 1) 3 1 (.slice (some ⟨g2, 0, none⟩) r.length c2) r.length (iv r) := hown2; have hbw := hbz; have hkz := HF2.out.keep (hbw.mono (by simp [World.setCell])); have HFz := Lib.hid hkz; have HBz : Hid (Below (pb + 1) wb w2) := Lib.hid (HB2.out.trans (hbw.mono (by omega))); have hszz : wr.heap.size + 1 + 1 ≤ (w2).heap.size := (by have := hbw.size; simp [World.setCell] at this ⊢; omega); have hrz : Rd w2 (fun i => pb + 1 ≤ i ∧ i ≠ gs ∧ (Value.slice (some ⟨g, 0, none⟩) ws.length cl).ownBlock ≠ some i) (some ⟨g2, 0, none⟩) (iv (r)) := (fun hn => by have h2 : w2.ownsRow (pb + 1) 3 1 (.slice (some ⟨g2, 0, none⟩) r.length c2) r.length (iv (r)) := hst2; obtain ⟨ad, e, q1, q2, q3⟩ := (Rd.own h2) hn; cases e; exact ⟨_, rfl, q1, ⟨by show pb + 1 ≤ g2; omega, by show g2 ≠ gs; omega, fun e => by have e : some g = some g2 := e; have := Option.some.inj e; omega⟩, q3⟩); have HNEW : Hid (∀ x ∈ ([⟨(p : Int) + 1, a, .slice (some ⟨g2, 0, none⟩) r.length c2, r⟩] : List Pk.Way), (∃ A c, x.v = .slice A x.r.length c ∧ Rd w2 (fun i => pb + 1 ≤ i ∧ i ≠ gs ∧ (Value.slice (some ⟨g, 0, none⟩) ws.length cl).ownBlock ≠ some i) A (iv x.r)) ∧ x.at_ ≤ t.length ∧ x.r.length = j) := Lib.hid (fun x hx => by simp at hx; rcases hx with rfl; exact ⟨⟨_, c2, rfl, hrz⟩, hat, HRL.out⟩); have HOA : Hid ((w2.alloc (.cells #[.int .i64 ((p : Int) + 1), .int .i64 (a : Int), .slice (some ⟨g2, 0, none⟩) r.length c2] 93)).ownsRow (pb + 1) 93 3 (.slice (some ⟨g, 0, none⟩) ws.length cl) ws.length (Pk.wcells ws.reverse)) := Lib.hid (hkz.pop.own.alloc _); have HRD : Hid (Rd (w2.alloc (.cells #[.int .i64 ((p : Int) + 1), .int .i64 (a : Int), .slice (some ⟨g2, 0, none⟩) r.length c2] 93)) (fun b => b = w2.heap.size) (some ⟨w2.heap.size, 0, none⟩) [.int .i64 ((p : Int) + 1), .int .i64 (a : Int), .slice (some ⟨g2, 0, none⟩) r.length c2]) := Lib.hid (Rd.fresh w2 [.int .i64 ((p : Int) + 1), .int .i64 (a : Int), .slice (some ⟨g2, 0, none⟩) r.length c2] 93 _ (by simp [World.setCell])); clear hst2 hbw hkz hrz; clear hown2 hg2 hat2 hnil2 hbz)
        | (at_builtin; go_must (refine wpList_app _ rfl (.tmp 181) (.tmp 189) 94 rfl (pb + 1) 93 i1 _ 3 40 Try.underlying94 HI1.out HZ1.out.1 HZ1.out.2.1 HZ1.out.2.2 rfl (by decide) (.slice (some ⟨g, 0, none⟩) ws.length cl) ws.length (Pk.wcells ws.reverse) (by simp [Act.eval]) HOA.out (fun b => b = w2.heap.size) (some ⟨w2.heap.size, 0, none⟩) 1 1 [.int .i64 ((p : Int) + 1), .int .i64 (a : Int), .slice (some ⟨g2, 0, none⟩) r.length c2] (by simp [Act.eval]) (by simp) HRD.out (by intro u hu; simp at hu; rcases hu with rfl | rfl | rfl <;> rfl) (by unfold maxLen; omega) (by omega) (by simp [World.setCell]; omega) ?_; intro v5 w5 hown5 hg5 hat5 hnil5; have HPU := Lib.hid (Pk.Wl.push HFz.out.pop ((Below.refl _ _).alloc (Nat.le_refl _) (.cells #[.int .i64 ((p : Int) + 1), .int .i64 (a : Int), .slice (some ⟨g2, 0, none⟩) r.length c2] 93)) (new := [⟨(p : Int) + 1, a, .slice (some ⟨g2, 0, none⟩) r.length c2, r⟩]) hown5 hg5 hat5 HNEW.out); have HBP : Hid (Below (pb + 1) wb w5) := Lib.hid ((HBz.out.alloc (by omega) (.cells #[.int .i64 ((p : Int) + 1), .int .i64 (a : Int), .slice (some ⟨g2, 0, none⟩) r.length c2] 93)).trans ⟨hg5.os, hg5.tape, hg5.output, hg5.size, fun b hb => hg5.block b (by simp [World.setCell]; omega) (fun e => by have := (World.ownsRow.lt HOA.out b e.symm).1; omega)⟩); obtain ⟨A5, c5, rfl⟩ := own_form hown5; clear hown5 hg5 hat5 hnil5))
      go_roundw
      case rel => exact ⟨([⟨(p : Int) + 1, a, .slice (some ⟨g2, 0, none⟩) r.length c2, r⟩] : List Pk.Way).reverse ++ ws, bs.set (q + a) true, ⟨A5, c5, rfl⟩, HPU, HBP, Lib.hid (by rw [← HD1.out, HACT.out, HV.out]; rfl), by show ws.length + 1 + _ ≤ _; omega⟩
      case measure => rw [HPU.out.left, HWx.out.left, ← HNN.out]; show 2 * _ + (ws.length + 1) < 2 * _ + (ws.length + 1); have := HLS.out; omega
set_option linter.unusedVariables false in
set_option maxRecDepth 1000000 in
set_option maxHeartbeats 200000000 in
theorem walk_other {W wb wr : World} {A Av : Option Addr} {cp cv : Nat} {L : List Rx.In} {t : List UInt8} {G k n j pb gs : Nat} {R : Option Pk.Row} {K : Act → World → Prop} {u6 u7 u12 u13 u14 u38 u39 u40 u41 u42 u43 u44 u45 u46 u47 u48 u49 u50 u51 u52 u53 u54 u55 u56 u57 u58 u59 u60 u61 u62 u63 u64 u65 u66 u67 u68 u69 u70 u71 u72 u73 u74 u75 u76 u77 u78 u79 u80 u81 u82 u83 u84 u85 u86 u87 u88 u89 u90 u91 u92 u93 u94 u95 u96 u97 u98 u99 u100 u101 u102 u103 u104 u105 u106 u107 u108 u109 u110 u111 u112 u113 u114 u115 u116 u117 u118 u119 u120 u121 u122 u123 u124 u125 u126 u127 u128 u129 u130 u131 u132 u133 u134 u135 u136 u137 u138 u139 u140 u141 u142 u143 u144 u145 u146 u147 u148 u149 u150 u151 u152 u153 u154 u155 u156 u157 u158 u159 u160 u161 u162 u163 u164 u165 u166 u167 u168 u169 u170 u171 u172 u173 u174 u175 u176 u177 u178 u179 u180 u181 u182 u183 u184 u185 u186 u187 u188 u189 u190 u191 u192 u193 u194 u195 u196 u197 u198 u199 u200 u201 u202 u203 u204 u205 u206 u207 u208 u209 u210 u211 u212 u213 u214 u215 u216 u217 u218 u219 u220 u221 u222 u223 u224 u21 u22 u23 u24 u25 : Value} {ws : List Pk.Way} {bs : List Bool} {Al : Option Addr} {cl a : Nat} {pc : Int} {v : Value} {r : Pk.Row} (hL : L.length ≤ 4096) (ht : t.length ≤ 100000) (hG : G ≤ 1024) (hk : k ≤ t.length) (hGI : (0 : Int) ≤ (G : Int)) (hGI2 : (G : Int) ≤ 1024) (hnb : n ≤ 4096 * 100001) (hnI : (L.length : Int) * ((t.length : Int) + 1) = (n : Int)) (hnw : IntKind.i64.wrap (n : Int) = (n : Int)) (hnwI : (n : Int) ≤ 409604096) (HNN : Hid (n = L.length * (t.length + 1))) (hlt : (t.length : Int) ≤ 100000) (HPR : Hid (∀ x ∈ L, x.p.length ≤ 1048576)) (HPB : Hid (pb = W.heap.size)) (HB0 : Hid (Below W.heap.size W wb)) (HP1 : Hid (Rd wb (fun i => i < W.heap.size) A (icells L))) (hsz : wb.heap.size = pb + 1) (hc1 : wb.cell? ⟨pb, 1, none⟩ = some (.slice A L.length cp)) (hc0 : wb.cell? ⟨pb, 0, none⟩ = some (.int .i64 (G : Int))) (hwI : (2 : Int) * (G : Int) + 2 = (j : Int)) (hw2 : 2 ≤ j) (hw4 : j ≤ 4096) (HW : Hid (Pk.Wl wr (pb + 1) gs j L t (.slice Al (List.length ((⟨pc, a, v, r⟩ : Pk.Way) :: ws)) cl) ((⟨pc, a, v, r⟩ : Pk.Way) :: ws) bs)) (HB : Hid (Below (pb + 1) wb wr)) (HD : Hid ((Pk.dfs L t (Pk.rdS t.length bs) (((⟨pc, a, v, r⟩ : Pk.Way) :: ws).map Pk.Way.ent)).1 = R)) (hcnt : List.length ((⟨pc, a, v, r⟩ : Pk.Way) :: ws) + 2 * Pk.free n (fun i => bs.getD i false) ≤ 2 * n + 1) {x : Rx.In} (ef : Pk.fetch L pc = some x) (hpc0 : 0 ≤ pc) (hpc1 : pc < (L.length : Int)) (hns : Pk.rdS t.length bs pc.toNat a = false) (hop1 : ¬ x.op = 2) (hop2 : ¬ x.op = 3) (hop3 : ¬ x.op = 7) (hop4 : ¬ x.op = 5) (hop5 : ¬ x.op = 6) (hop6 : ¬ x.op = 1) (hop7 : ¬ x.op = 4) : Code.wp Try.prog Pk.wbody (Exit.then (fun a' w' => Pk.WI G A L cp t k pb Av cv j gs n wb R u21 u22 u23 u24 u25 a' w' ∧ Pk.Wmu gs L t a' w' < Pk.Wmu gs L t ⟨#[.agg #[.int .i64 (G : Int), .slice A L.length cp], .string ⟨t.toArray⟩, .int .i64 (k : Int), .pointer (some ⟨pb, 0, none⟩), undef, undef, u6, u7, .slice Av j cv, .int .i64 (j : Int), .slice (some ⟨gs, 0, none⟩) n n, .slice Al (List.length ((⟨pc, a, v, r⟩ : Pk.Way) :: ws)) cl, u12, u13, u14, .int .i64 (j : Int), .pointer (some ⟨pb, 0, none⟩), .int .i64 (G : Int), .int .i64 (2 * (G : Int)), .int .i64 (j : Int), .bool false, u21, u22, u23, u24, u25, .pointer (some ⟨pb, 1, none⟩), .slice A L.length cp, .int .i64 (L.length : Int), .string ⟨t.toArray⟩, .int .i64 (t.length : Int), .int .i64 ((t.length : Int) + 1), .int .i64 (n : Int), .slice (some ⟨gs, 0, none⟩) n n, .int .i64 (k : Int), .slice Av j cv, .agg #[.int .i64 0, .int .i64 (k : Int), .slice Av j cv], .slice (some ⟨gs + 1, 0, none⟩) 1 1, u38, u39, u40, u41, u42, u43, u44, u45, u46, u47, u48, u49, u50, u51, u52, u53, u54, u55, u56, u57, u58, u59, u60, u61, u62, u63, u64, u65, u66, u67, u68, u69, u70, u71, u72, u73, u74, u75, u76, u77, u78, u79, u80, u81, u82, u83, u84, u85, u86, u87, u88, u89, u90, u91, u92, u93, u94, u95, u96, u97, u98, u99, u100, u101, u102, u103, u104, u105, u106, u107, u108, u109, u110, u111, u112, u113, u114, u115, u116, u117, u118, u119, u120, u121, u122, u123, u124, u125, u126, u127, u128, u129, u130, u131, u132, u133, u134, u135, u136, u137, u138, u139, u140, u141, u142, u143, u144, u145, u146, u147, u148, u149, u150, u151, u152, u153, u154, u155, u156, u157, u158, u159, u160, u161, u162, u163, u164, u165, u166, u167, u168, u169, u170, u171, u172, u173, u174, u175, u176, u177, u178, u179, u180, u181, u182, u183, u184, u185, u186, u187, u188, u189, u190, u191, u192, u193, u194, u195, u196, u197, u198, u199, u200, u201, u202, u203, u204, u205, u206, u207, u208, u209, u210, u211, u212, u213, u214, u215, u216, u217, u218, u219, u220, u221, u222, u223, u224], []⟩ wr) (Exit.inBlock 2 (Exit.then K (bodyPost Try.prog Try.f27 (Pk.Walkd W R))))) ⟨#[.agg #[.int .i64 (G : Int), .slice A L.length cp], .string ⟨t.toArray⟩, .int .i64 (k : Int), .pointer (some ⟨pb, 0, none⟩), undef, undef, u6, u7, .slice Av j cv, .int .i64 (j : Int), .slice (some ⟨gs, 0, none⟩) n n, .slice Al (List.length ((⟨pc, a, v, r⟩ : Pk.Way) :: ws)) cl, u12, u13, u14, .int .i64 (j : Int), .pointer (some ⟨pb, 0, none⟩), .int .i64 (G : Int), .int .i64 (2 * (G : Int)), .int .i64 (j : Int), .bool false, u21, u22, u23, u24, u25, .pointer (some ⟨pb, 1, none⟩), .slice A L.length cp, .int .i64 (L.length : Int), .string ⟨t.toArray⟩, .int .i64 (t.length : Int), .int .i64 ((t.length : Int) + 1), .int .i64 (n : Int), .slice (some ⟨gs, 0, none⟩) n n, .int .i64 (k : Int), .slice Av j cv, .agg #[.int .i64 0, .int .i64 (k : Int), .slice Av j cv], .slice (some ⟨gs + 1, 0, none⟩) 1 1, u38, u39, u40, u41, u42, u43, u44, u45, u46, u47, u48, u49, u50, u51, u52, u53, u54, u55, u56, u57, u58, u59, u60, u61, u62, u63, u64, u65, u66, u67, u68, u69, u70, u71, u72, u73, u74, u75, u76, u77, u78, u79, u80, u81, u82, u83, u84, u85, u86, u87, u88, u89, u90, u91, u92, u93, u94, u95, u96, u97, u98, u99, u100, u101, u102, u103, u104, u105, u106, u107, u108, u109, u110, u111, u112, u113, u114, u115, u116, u117, u118, u119, u120, u121, u122, u123, u124, u125, u126, u127, u128, u129, u130, u131, u132, u133, u134, u135, u136, u137, u138, u139, u140, u141, u142, u143, u144, u145, u146, u147, u148, u149, u150, u151, u152, u153, u154, u155, u156, u157, u158, u159, u160, u161, u162, u163, u164, u165, u166, u167, u168, u169, u170, u171, u172, u173, u174, u175, u176, u177, u178, u179, u180, u181, u182, u183, u184, u185, u186, u187, u188, u189, u190, u191, u192, u193, u194, u195, u196, u197, u198, u199, u200, u201, u202, u203, u204, u205, u206, u207, u208, u209, u210, u211, u212, u213, u214, u215, u216, u217, u218, u219, u220, u221, u222, u223, u224], []⟩ wr := by
  obtain ⟨i0, hi0, hz0, hz1, hz2⟩ := info_parts Pk.int_info2
  have HI := Lib.hid hi0
  have HZ := Lib.hid (And.intro hz0 (And.intro hz1 hz2))
  clear hi0 hz0 hz1 hz2
  obtain ⟨i1, hi1, hy0, hy1, hy2⟩ := info_parts Pk.way_info
  have HI1 := Lib.hid hi1
  have HZ1 := Lib.hid (And.intro hy0 (And.intro hy1 hy2))
  clear hi1 hy0 hy1 hy2
  unfold Pk.WI Pk.Wmu
  conv => arg 2; whnf
  try dsimp only
  have e1 : wr.cell? ⟨pb, 1, none⟩ = some (.slice A L.length cp) := (HB.out.cell (p := ⟨pb, 1, none⟩) (by show pb < pb + 1; omega)).trans hc1
  have hsr := HB.out.size
  have hpr : pb < wr.heap.size := by omega
  obtain ⟨Ar, cr, hv, _⟩ := HW.out.rows ⟨pc, a, v, r⟩ List.mem_cons_self
  have hv : v = .slice Ar r.length cr := hv
  subst hv
  have hat : a ≤ t.length := HW.out.at_ ⟨pc, a, _, r⟩ List.mem_cons_self
  have hatI : (a : Int) ≤ (t.length : Int) := by omega
  have HRL : Hid (r.length = j) := Lib.hid (HW.out.rl ⟨pc, a, _, r⟩ List.mem_cons_self)
  have hwl : ws.length ≤ 1000000000 := by have : ws.length + 1 + _ ≤ _ := hcnt; omega
  obtain ⟨g, cap, hlv, hg1, hg2⟩ := own_some HW.out.own (by show 0 < ws.length + 1; omega)
  have hAl : Al = some ⟨g, 0, none⟩ ∧ cl = cap := by cases hlv; exact ⟨rfl, rfl⟩
  obtain ⟨rfl, rfl⟩ := hAl
  have HWx : Hid (Pk.Wl wr (pb + 1) gs j L t (.slice (some ⟨g, 0, none⟩) (ws.length + 1) cl) (⟨pc, a, .slice Ar r.length cr, r⟩ :: ws) bs) := HW
  obtain ⟨k0, k1, k2⟩ := HWx.out.top
  have hcl : ws.length + 1 ≤ cl := by
    rcases HWx.out.own.2 with ⟨e, _⟩ | ⟨g', cap, cur, e, _, _, h3, _⟩
    · cases e
    · cases e; exact h3
  have hgn : ¬ g = gs := fun e => HWx.out.ne (by rw [← e]; rfl)
  have hgn2 : ¬ gs = g := fun e => hgn e.symm
  have hgp : ¬ g = pb := by omega
  have hgsp : ¬ gs = pb := by have := HWx.out.gs0; omega
  have hgsl : gs < wr.heap.size := (Array.getElem?_eq_some_iff.1 HWx.out.seen).1
  have HD1 : Hid ((Pk.dfs L t (Pk.rdS t.length bs) ((pc, a, r) :: ws.map Pk.Way.ent)).1 = R) := HD
  clear HD HW hlv
  have HSK : Hid (Pk.Wl (wr.alloc (.cells #[.int .i64 pc, .int .i64 (a : Int), .slice Ar r.length cr] 93)) (pb + 1) gs j L t (.slice (some ⟨g, 0, none⟩) ws.length cl) ws bs) := Lib.hid (HWx.out.pop.keep ((Below.refl _ _).alloc (Nat.le_refl _) _))
  have HBK : Hid (Below (pb + 1) wb (wr.alloc (.cells #[.int .i64 pc, .int .i64 (a : Int), .slice Ar r.length cr] 93))) := Lib.hid (HB.out.alloc (by omega) _)
  have hcnt2 : ws.length + 2 * Pk.free n (fun i => bs.getD i false) ≤ 2 * n + 1 := by have : ws.length + 1 + _ ≤ _ := hcnt; omega
  have HNN2 := Lib.hid HNN.out
  obtain ⟨p, rfl⟩ : ∃ p : Nat, pc = (p : Int) := ⟨pc.toNat, by omega⟩
  have hp0 : ¬ (p : Int) < 0 := by omega
  have hp1 : ¬ (L.length : Int) ≤ (p : Int) := by omega
  have hpN : p < L.length := by omega
  obtain ⟨q, hq⟩ : ∃ q, q = p * (t.length + 1) := ⟨_, rfl⟩
  have hqI : (p : Int) * ((t.length : Int) + 1) = (q : Int) := by rw [hq]; simp
  have hqa : q + a < n := by rw [hq, HNN.out]; exact Pk.idx_lt hpN hat
  have hqaI : (q : Int) + (a : Int) < (n : Int) := by omega
  have hq0 : (0 : Int) ≤ (q : Int) := by omega
  have hqn : (q : Int) ≤ 409604096 := by omega
  have hbl : q + a < bs.length := by rw [HWx.out.len, ← HNN.out]; exact hqa
  obtain ⟨sc, sf⟩ := HWx.out.cell (q + a) hbl
  have hS : Pk.rdS t.length bs p a = bs.getD (q + a) false := by
    unfold Pk.rdS
    rw [← hq]
    simp [hat]
  have hgd : bs.getD (q + a) false = bs[q + a] := by rw [List.getD_eq_getElem?_getD, List.getElem?_eq_getElem hbl]; rfl
  have hse : bs[q + a] = false := by rw [← hgd, ← hS]; simpa using hns
  have hsf : Pk.rdS t.length bs p a = false := by rw [hS, hgd]; exact hse
  have hact := Pk.dfs_act (L := L) (t := t) (S := Pk.rdS t.length bs) (h := (p : Int)) (k := a) (r := r) (l := ws.map Pk.Way.ent) ef (by rw [Int.toNat_natCast]; exact hsf) hat
  rw [Int.toNat_natCast, show Pk.see (Pk.rdS t.length bs) p a = Pk.rdS t.length (bs.set (q + a) true) by rw [hq, Pk.rdS_set _ _ _ _ hat (by rw [← hq]; exact hbl)]] at hact
  have HACT := Lib.hid hact
  have HLS := Lib.hid (Pk.left_set n bs (q + a) hqa hbl (by rw [hgd]; exact hse))
  rw [hse] at sc
  have hPx : x.p.length ≤ 1048576 := HPR.out x (by have := (Pk.fetch_some ef).2.2; exact List.mem_of_getElem? this)
  obtain ⟨ib, io, hA, hil, i0', i1', i2', i3', hig⟩ := Pk.prog_cells2 HP1.out ef
  have hA2 : A = some ⟨ib, io, none⟩ := hA
  have hib : ib < pb := by have := HPB.out; omega
  have j0 : wr.cell? ⟨ib, io + p * 4, none⟩ = some (.int .i64 x.op) := (HB.out.cell (p := ⟨ib, io + p * 4, none⟩) (by show ib < pb + 1; omega)).trans (by simpa using i0')
  have j1 : wr.cell? ⟨ib, io + p * 4 + 1, none⟩ = some (.int .i64 x.x) := (HB.out.cell (p := ⟨ib, io + p * 4 + 1, none⟩) (by show ib < pb + 1; omega)).trans (by simpa using i1')
  have j2 : wr.cell? ⟨ib, io + p * 4 + 2, none⟩ = some (.int .i64 x.y) := (HB.out.cell (p := ⟨ib, io + p * 4 + 2, none⟩) (by show ib < pb + 1; omega)).trans (by simpa using i2')
  have j3 : wr.cell? ⟨ib, io + p * 4 + 3, none⟩ = some (.string ⟨x.p.toArray⟩) := (HB.out.cell (p := ⟨ib, io + p * 4 + 3, none⟩) (by show ib < pb + 1; omega)).trans (by simpa using i3')
  have hibg : ¬ gs = ib := by have := HWx.out.gs0; omega
  have hibr : ib < wr.heap.size := by omega
  clear hA
  subst hA2
  have hpw : IntKind.i64.wrap ((p : Int) + 1) = (p : Int) + 1 := by rw [IntKind.wrap_i64]; omega
  have haw : IntKind.i64.wrap ((a : Int) + 1) = (a : Int) + 1 := by rw [IntKind.wrap_i64]; omega
  clear i0' i1' i2' i3' hact hS hgd hsf hq HSK HBK hig
  obtain ⟨xop, xx, xy, xp⟩ := x
  have hop1 : ¬ xop = 2 := hop1
  have hop2 : ¬ xop = 3 := hop2
  have hop3 : ¬ xop = 7 := hop3
  have hop4 : ¬ xop = 5 := hop4
  have hop5 : ¬ xop = 6 := hop5
  have hop6 : ¬ xop = 1 := hop6
  have hop7 : ¬ xop = 4 := hop7
  go_upto_region 14 with fail
  have HV : Hid (Pk.act t a ⟨xop, xx, xy, xp⟩ (p : Int) r = .dead) := Lib.hid (by unfold Pk.act; rw [if_neg hop6, if_neg hop1, if_neg hop2, if_neg hop7, if_neg hop4, if_neg hop5, if_neg hop3])
  have HF2 : Hid (Pk.Wl (((wr.setCell ⟨gs, q + a, none⟩ (.bool true)).alloc (.cells #[.int .i64 (p : Int), .int .i64 (a : Int), .slice Ar r.length cr] 93)).alloc (.cells #[.int .i64 xop, .int .i64 xx, .int .i64 xy, .string ⟨xp.toArray⟩] 57)) (pb + 1) gs j L t (.slice (some ⟨g, 0, none⟩) (ws.length + 1) cl) (⟨(p : Int), a, .slice Ar r.length cr, r⟩ :: ws) (bs.set (q + a) true)) := Lib.hid (((HWx.out.marked (q + a)).keep ((Below.refl _ _).alloc (Nat.le_refl _) _)).keep ((Below.refl _ _).alloc (Nat.le_refl _) _))
  have HB2 : Hid (Below (pb + 1) wb (((wr.setCell ⟨gs, q + a, none⟩ (.bool true)).alloc (.cells #[.int .i64 (p : Int), .int .i64 (a : Int), .slice Ar r.length cr] 93)).alloc (.cells #[.int .i64 xop, .int .i64 xx, .int .i64 xy, .string ⟨xp.toArray⟩] 57))) := Lib.hid (((HB.out.setCell (by have := HWx.out.gs0; exact this) _).alloc (by simp [World.setCell]; omega) _).alloc (by simp [World.setCell]; omega) _)
  have hcnt3 : ws.length + 2 * Pk.free n (fun i => (bs.set (q + a) true).getD i false) + 2 ≤ 2 * n + 1 := by have := HLS.out; omega
  go_wp2_with fail
  go_roundw
  case rel => exact ⟨ws, bs.set (q + a) true, ⟨_, _, rfl⟩, Lib.hid HF2.out.pop, HB2, Lib.hid (by rw [← HD1.out, HACT.out, HV.out]), by omega⟩
  case measure => rw [HF2.out.pop.left, HWx.out.left, ← HNN.out]; show 2 * _ + ws.length < 2 * _ + (ws.length + 1); have := HLS.out; omega
set_option maxRecDepth 1000000 in
set_option maxHeartbeats 200000000 in
theorem refWalk_any {W : World} {A : Option Addr} {cp : Nat} {L : List Rx.In} {t : List UInt8} {G k : Nat} (hp : Rd W (fun _ => True) A (icells L)) (hP : ∀ x ∈ L, x.p.length ≤ 1048576) (hL : L.length ≤ 4096) (ht : t.length ≤ 100000) (hG : G ≤ 1024) (hk : k ≤ t.length) :
    Calls Try.prog 27 #[.agg #[.int .i64 (G : Int), .slice A L.length cp], .string ⟨t.toArray⟩, .int .i64 (k : Int)] W (Pk.Walkd W (Pk.walk L t (2 * G + 2) k)) := by
  obtain ⟨i0, hi0, hz0, hz1, hz2⟩ := info_parts Pk.int_info2
  have HI := Lib.hid hi0
  have HZ := Lib.hid (And.intro hz0 (And.intro hz1 hz2))
  clear hi0 hz0 hz1 hz2
  obtain ⟨i1, hi1, hy0, hy1, hy2⟩ := info_parts Pk.way_info
  have HI1 := Lib.hid hi1
  have HZ1 := Lib.hid (And.intro hy0 (And.intro hy1 hy2))
  clear hi1 hy0 hy1 hy2
  obtain ⟨w, hwd⟩ : ∃ w : Nat, w = 2 * G + 2 := ⟨_, rfl⟩
  rw [← hwd]
  have hwI : (2 : Int) * (G : Int) + 2 = (w : Int) := by omega
  have hw2 : 2 ≤ w := by omega
  have hw4 : w ≤ 4096 := by omega
  have hGI : (0 : Int) ≤ (G : Int) := by omega
  have hGI2 : (G : Int) ≤ 1024 := by omega
  obtain ⟨n, hn⟩ : ∃ n, n = L.length * (t.length + 1) := ⟨_, rfl⟩
  have hnb : n ≤ 4096 * 100001 := by rw [hn]; exact Nat.mul_le_mul hL (by omega)
  have hnI : (L.length : Int) * ((t.length : Int) + 1) = (n : Int) := by rw [hn]; simp
  have hnw : IntKind.i64.wrap (n : Int) = (n : Int) := by rw [IntKind.wrap_i64]; omega
  have hnwI : (n : Int) ≤ 409604096 := by omega
  have hmk := fun W => Pk.mk_bools n (by omega) W
  have HNN := Lib.hid hn
  have hlt : (t.length : Int) ≤ 100000 := by omega
  have HW : Hid (Pk.walk L t w k = Pk.walk L t w k) := Lib.hid rfl
  obtain ⟨R, hR⟩ : ∃ R, Pk.walk L t w k = R := ⟨_, rfl⟩
  rw [hR]
  have HR := Lib.hid hR
  clear hwd hn hR HW
  have hb0 : Below W.heap.size W (W.alloc (.cells #[.int .i64 (G : Int), .slice A L.length cp] 34)) := (Below.refl _ _).alloc (Nat.le_refl _) _
  have hp1 : Rd (W.alloc (.cells #[.int .i64 (G : Int), .slice A L.length cp] 34)) (fun i => i < W.heap.size) A (icells L) := fun h => by
    obtain ⟨ad, e, hl, _, hc⟩ := hp h
    exact ⟨ad, e, by simp; omega, hl, fun j u hu => (World.cell?_of_block (by rw [Me.block_add]; exact Below.heap_alloc W _ _ hl)).trans (hc j u hu)⟩
  have hc0 : (W.alloc (.cells #[.int .i64 (G : Int), .slice A L.length cp] 34)).cell? ⟨W.heap.size, 0, none⟩ = some (.int .i64 (G : Int)) := ((RowAt.new W _ _).cell 0).trans rfl
  have hc1 : (W.alloc (.cells #[.int .i64 (G : Int), .slice A L.length cp] 34)).cell? ⟨W.heap.size, 1, none⟩ = some (.slice A L.length cp) := ((RowAt.new W _ _).cell 1).trans rfl
  have hsz : (W.alloc (.cells #[.int .i64 (G : Int), .slice A L.length cp] 34)).heap.size = W.heap.size + 1 := by simp
  have HB0 := Lib.hid hb0
  have HP1 := Lib.hid hp1
  have HPR := Lib.hid hP
  obtain ⟨pb, hpb⟩ : ∃ pb, pb = W.heap.size := ⟨_, rfl⟩
  have HPB := Lib.hid hpb
  clear hb0 hp1 hP hp
  go_enter Try.func27, Try.ntmps27
  go_wp2_with fail
  rw [← hpb] at hc0 hc1 hsz ⊢
  clear hpb
  generalize W.alloc (.cells #[.int .i64 (G : Int), .slice A L.length cp] 34) = wb at *
  have HSZ := Lib.hid hsz
  go_loopw [8, 9] (fun v x wr => ∃ j : Nat, x = .int .i64 (j : Int) ∧ j ≤ w ∧ (∃ Av cv, v = .slice Av j cv) ∧ Hid (wr.ownsRow (pb + 1) 3 1 v j (iv (List.replicate j (-1)))) ∧ Hid (Below (pb + 1) wb wr)) (fun _ x _ => w - (intOf x).toNat)
  case atStart => exact ⟨0, rfl, Nat.zero_le _, ⟨none, 0, rfl⟩, Lib.hid ⟨by simp [iv], .inl ⟨rfl, rfl⟩⟩, Lib.hid (Below.refl _ _)⟩
  case round =>
    obtain ⟨j, rfl, hj, ⟨Av, cv, rfl⟩, HO, HB⟩ := hrel
    have hsr := HB.out.size
    have e0 : wr.cell? ⟨pb, 0, none⟩ = some (.int .i64 (G : Int)) := (HB.out.cell (p := ⟨pb, 0, none⟩) (by show pb < pb + 1; omega)).trans hc0
    have e1 : wr.cell? ⟨pb, 1, none⟩ = some (.slice A L.length cp) := (HB.out.cell (p := ⟨pb, 1, none⟩) (by show pb < pb + 1; omega)).trans hc1
    by_cases hlt2 : j < w
    · have hltI : (j : Int) < (w : Int) := by omega
      have hj1 : j + 1 ≤ maxLen := by unfold maxLen; omega
      have HOA : Hid ((wr.alloc (.cells #[.int .i64 (-1)] 3)).ownsRow (pb + 1) 3 1 (.slice Av j cv) j (iv (List.replicate j (-1)))) := Lib.hid (HO.out.alloc _)
      have HRD : Hid (Rd (wr.alloc (.cells #[.int .i64 (-1)] 3)) (fun b => b = wr.heap.size) (some ⟨wr.heap.size, 0, none⟩) [.int .i64 (-1)]) := Lib.hid (Rd.fresh wr [.int .i64 (-1)] 3 _ rfl)
      go_wp2_with (at_builtin; go_must (refine wpList_app _ rfl (.tmp 23) (.tmp 24) 28 rfl (pb + 1) 3 i0 _ 1 8 Try.underlying28 HI.out HZ.out.1 HZ.out.2.1 HZ.out.2.2 rfl (by decide) (.slice Av j cv) j (iv (List.replicate j (-1))) (by simp [Act.eval]) HOA.out (fun b => b = wr.heap.size) (some ⟨wr.heap.size, 0, none⟩) 1 1 [.int .i64 (-1)] (by simp [Act.eval]) (by simp) HRD.out (by intro u hu; simp at hu; subst hu; rfl) hj1 (by omega) (by simp; omega) ?_; intro v2 w2 hown2 hg2 hat2 hnil2; have HO2 : Hid (w2.ownsRow (pb + 1) 3 1 v2 (j + 1) (iv (List.replicate (j + 1) (-1)))) := Lib.hid (by rw [List.replicate_succ', iv_append]; exact hown2); have HB2 : Hid (Below (pb + 1) wb w2) := Lib.hid ((HB.out.alloc (by omega) (.cells #[.int .i64 (-1)] 3)).trans ⟨hg2.os, hg2.tape, hg2.output, hg2.size, fun b hb => hg2.block b (by simp; omega) fun e => by have := (World.ownsRow.lt HOA.out b e.symm).1; omega⟩); obtain ⟨A2, c2, rfl⟩ := own_form hown2; clear hown2 hg2 hat2 hnil2))
      go_roundw
      case rel => exact ⟨j + 1, by go_num, by omega, ⟨A2, c2, rfl⟩, HO2, HB2⟩
      case measure => simp [intOf]; omega
    · have hltI : ¬ (j : Int) < (w : Int) := by omega
      obtain rfl : j = w := by omega
      go_wp2_with fail
      obtain ⟨gs, hgs⟩ : ∃ gs, gs = wr.heap.size := ⟨_, rfl⟩
      have hW0 : Pk.Wl ((wr.alloc (.cells (Array.replicate n (Value.bool false)) 4)).alloc (.cells #[.int .i64 0, .int .i64 (k : Int), .slice Av j cv] 93)) (pb + 1) gs j L t (.slice (some ⟨gs + 1, 0, none⟩) 1 1) [⟨0, k, .slice Av j cv, List.replicate j (-1)⟩] (List.replicate n false) := by
        have hl := World.ownsRow.lt HO.out
        refine ⟨⟨rfl, .inr ⟨gs + 1, 1, _, rfl, by omega, by rw [hgs]; exact Pk.hnew2 (by simp), Nat.le_refl _, by unfold maxLen; omega, rfl, rfl⟩⟩, ?_, by omega, fun e => ?_, ?_, by rw [List.length_replicate]; exact HNN.out, ?_, ?_⟩
        · rw [hgs, show ((List.replicate n false).map Value.bool).toArray = Array.replicate n (Value.bool false) by simp]
          exact (Below.heap_alloc _ _ _ (by simp)).trans (heap_alloc_new _ _)
        · have : some (gs + 1) = some gs := e
          have := Option.some.inj this
          omega
        · intro x hx
          rw [List.mem_singleton.1 hx]
          refine ⟨Av, cv, by simp, fun hn => ?_⟩
          obtain ⟨ad, e, h1, h2, h3⟩ := (Rd.own HO.out) hn
          have h4 := hl _ h2
          refine ⟨ad, e, by simp; omega, ⟨h4.1, by omega, fun e2 => ?_⟩, fun u v hu => ?_⟩
          · have e2 : some (gs + 1) = some ad.block := e2
            have := Option.some.inj e2
            omega
          · exact (World.cell?_of_block (by rw [Me.block_add]; exact (Below.heap_alloc _ _ _ (by simp; omega)).trans (Below.heap_alloc _ _ _ (by omega)))).trans (h3 u v hu)
        · intro x hx; rw [List.mem_singleton.1 hx]; exact hk
        · intro x hx; rw [List.mem_singleton.1 hx]; simp
      have HW0 := Lib.hid hW0
      have HBM : Hid (Below (pb + 1) wb ((wr.alloc (.cells (Array.replicate n (Value.bool false)) 4)).alloc (.cells #[.int .i64 0, .int .i64 (k : Int), .slice Av j cv] 93))) := Lib.hid ((HB.out.alloc (by omega) _).alloc (by simp; omega) _)
      have HD0 : Hid ((Pk.dfs L t (Pk.rdS t.length (List.replicate n false)) ([(⟨0, k, .slice Av j cv, List.replicate j (-1)⟩ : Pk.Way)].map Pk.Way.ent)).1 = R) := Lib.hid (by rw [Pk.rdS_none]; exact HR.out)
      clear hW0 HO HB e0 e1 hmk HSZ
      rw [← hgs]
      clear hgs
      generalize (wr.alloc (.cells (Array.replicate n (Value.bool false)) 4)).alloc (.cells #[.int .i64 0, .int .i64 (k : Int), .slice Av j cv] 93) = wm at *
      refine wp_loop (Pk.WI G A L cp t k pb Av cv j gs n wb R u21 u22 u23 u24 u25) (Pk.Wmu gs L t) ?_ ?_
      · unfold Pk.WI
        (repeat apply Exists.intro)
        refine ⟨?_, rfl⟩
        exact ⟨_, _, ⟨_, _, rfl⟩, HW0, HBM, HD0, by have := Pk.free_le n (fun i => (List.replicate n false).getD i false); show 1 + 2 * _ ≤ _; omega⟩
      · intro a0 wr hinv
        clear HW0 HBM HD0
        unfold Pk.WI at hinv
        obtain ⟨u6, hinv⟩ := hinv
        obtain ⟨u7, hinv⟩ := hinv
        obtain ⟨u11, hinv⟩ := hinv
        obtain ⟨u12, hinv⟩ := hinv
        obtain ⟨u13, hinv⟩ := hinv
        obtain ⟨u14, hinv⟩ := hinv
        obtain ⟨u38, hinv⟩ := hinv
        obtain ⟨u39, hinv⟩ := hinv
        obtain ⟨u40, hinv⟩ := hinv
        obtain ⟨u41, hinv⟩ := hinv
        obtain ⟨u42, hinv⟩ := hinv
        obtain ⟨u43, hinv⟩ := hinv
        obtain ⟨u44, hinv⟩ := hinv
        obtain ⟨u45, hinv⟩ := hinv
        obtain ⟨u46, hinv⟩ := hinv
        obtain ⟨u47, hinv⟩ := hinv
        obtain ⟨u48, hinv⟩ := hinv
        obtain ⟨u49, hinv⟩ := hinv
        obtain ⟨u50, hinv⟩ := hinv
        obtain ⟨u51, hinv⟩ := hinv
        obtain ⟨u52, hinv⟩ := hinv
        obtain ⟨u53, hinv⟩ := hinv
        obtain ⟨u54, hinv⟩ := hinv
        obtain ⟨u55, hinv⟩ := hinv
        obtain ⟨u56, hinv⟩ := hinv
        obtain ⟨u57, hinv⟩ := hinv
        obtain ⟨u58, hinv⟩ := hinv
        obtain ⟨u59, hinv⟩ := hinv
        obtain ⟨u60, hinv⟩ := hinv
        obtain ⟨u61, hinv⟩ := hinv
        obtain ⟨u62, hinv⟩ := hinv
        obtain ⟨u63, hinv⟩ := hinv
        obtain ⟨u64, hinv⟩ := hinv
        obtain ⟨u65, hinv⟩ := hinv
        obtain ⟨u66, hinv⟩ := hinv
        obtain ⟨u67, hinv⟩ := hinv
        obtain ⟨u68, hinv⟩ := hinv
        obtain ⟨u69, hinv⟩ := hinv
        obtain ⟨u70, hinv⟩ := hinv
        obtain ⟨u71, hinv⟩ := hinv
        obtain ⟨u72, hinv⟩ := hinv
        obtain ⟨u73, hinv⟩ := hinv
        obtain ⟨u74, hinv⟩ := hinv
        obtain ⟨u75, hinv⟩ := hinv
        obtain ⟨u76, hinv⟩ := hinv
        obtain ⟨u77, hinv⟩ := hinv
        obtain ⟨u78, hinv⟩ := hinv
        obtain ⟨u79, hinv⟩ := hinv
        obtain ⟨u80, hinv⟩ := hinv
        obtain ⟨u81, hinv⟩ := hinv
        obtain ⟨u82, hinv⟩ := hinv
        obtain ⟨u83, hinv⟩ := hinv
        obtain ⟨u84, hinv⟩ := hinv
        obtain ⟨u85, hinv⟩ := hinv
        obtain ⟨u86, hinv⟩ := hinv
        obtain ⟨u87, hinv⟩ := hinv
        obtain ⟨u88, hinv⟩ := hinv
        obtain ⟨u89, hinv⟩ := hinv
        obtain ⟨u90, hinv⟩ := hinv
        obtain ⟨u91, hinv⟩ := hinv
        obtain ⟨u92, hinv⟩ := hinv
        obtain ⟨u93, hinv⟩ := hinv
        obtain ⟨u94, hinv⟩ := hinv
        obtain ⟨u95, hinv⟩ := hinv
        obtain ⟨u96, hinv⟩ := hinv
        obtain ⟨u97, hinv⟩ := hinv
        obtain ⟨u98, hinv⟩ := hinv
        obtain ⟨u99, hinv⟩ := hinv
        obtain ⟨u100, hinv⟩ := hinv
        obtain ⟨u101, hinv⟩ := hinv
        obtain ⟨u102, hinv⟩ := hinv
        obtain ⟨u103, hinv⟩ := hinv
        obtain ⟨u104, hinv⟩ := hinv
        obtain ⟨u105, hinv⟩ := hinv
        obtain ⟨u106, hinv⟩ := hinv
        obtain ⟨u107, hinv⟩ := hinv
        obtain ⟨u108, hinv⟩ := hinv
        obtain ⟨u109, hinv⟩ := hinv
        obtain ⟨u110, hinv⟩ := hinv
        obtain ⟨u111, hinv⟩ := hinv
        obtain ⟨u112, hinv⟩ := hinv
        obtain ⟨u113, hinv⟩ := hinv
        obtain ⟨u114, hinv⟩ := hinv
        obtain ⟨u115, hinv⟩ := hinv
        obtain ⟨u116, hinv⟩ := hinv
        obtain ⟨u117, hinv⟩ := hinv
        obtain ⟨u118, hinv⟩ := hinv
        obtain ⟨u119, hinv⟩ := hinv
        obtain ⟨u120, hinv⟩ := hinv
        obtain ⟨u121, hinv⟩ := hinv
        obtain ⟨u122, hinv⟩ := hinv
        obtain ⟨u123, hinv⟩ := hinv
        obtain ⟨u124, hinv⟩ := hinv
        obtain ⟨u125, hinv⟩ := hinv
        obtain ⟨u126, hinv⟩ := hinv
        obtain ⟨u127, hinv⟩ := hinv
        obtain ⟨u128, hinv⟩ := hinv
        obtain ⟨u129, hinv⟩ := hinv
        obtain ⟨u130, hinv⟩ := hinv
        obtain ⟨u131, hinv⟩ := hinv
        obtain ⟨u132, hinv⟩ := hinv
        obtain ⟨u133, hinv⟩ := hinv
        obtain ⟨u134, hinv⟩ := hinv
        obtain ⟨u135, hinv⟩ := hinv
        obtain ⟨u136, hinv⟩ := hinv
        obtain ⟨u137, hinv⟩ := hinv
        obtain ⟨u138, hinv⟩ := hinv
        obtain ⟨u139, hinv⟩ := hinv
        obtain ⟨u140, hinv⟩ := hinv
        obtain ⟨u141, hinv⟩ := hinv
        obtain ⟨u142, hinv⟩ := hinv
        obtain ⟨u143, hinv⟩ := hinv
        obtain ⟨u144, hinv⟩ := hinv
        obtain ⟨u145, hinv⟩ := hinv
        obtain ⟨u146, hinv⟩ := hinv
        obtain ⟨u147, hinv⟩ := hinv
        obtain ⟨u148, hinv⟩ := hinv
        obtain ⟨u149, hinv⟩ := hinv
        obtain ⟨u150, hinv⟩ := hinv
        obtain ⟨u151, hinv⟩ := hinv
        obtain ⟨u152, hinv⟩ := hinv
        obtain ⟨u153, hinv⟩ := hinv
        obtain ⟨u154, hinv⟩ := hinv
        obtain ⟨u155, hinv⟩ := hinv
        obtain ⟨u156, hinv⟩ := hinv
        obtain ⟨u157, hinv⟩ := hinv
        obtain ⟨u158, hinv⟩ := hinv
        obtain ⟨u159, hinv⟩ := hinv
        obtain ⟨u160, hinv⟩ := hinv
        obtain ⟨u161, hinv⟩ := hinv
        obtain ⟨u162, hinv⟩ := hinv
        obtain ⟨u163, hinv⟩ := hinv
        obtain ⟨u164, hinv⟩ := hinv
        obtain ⟨u165, hinv⟩ := hinv
        obtain ⟨u166, hinv⟩ := hinv
        obtain ⟨u167, hinv⟩ := hinv
        obtain ⟨u168, hinv⟩ := hinv
        obtain ⟨u169, hinv⟩ := hinv
        obtain ⟨u170, hinv⟩ := hinv
        obtain ⟨u171, hinv⟩ := hinv
        obtain ⟨u172, hinv⟩ := hinv
        obtain ⟨u173, hinv⟩ := hinv
        obtain ⟨u174, hinv⟩ := hinv
        obtain ⟨u175, hinv⟩ := hinv
        obtain ⟨u176, hinv⟩ := hinv
        obtain ⟨u177, hinv⟩ := hinv
        obtain ⟨u178, hinv⟩ := hinv
        obtain ⟨u179, hinv⟩ := hinv
        obtain ⟨u180, hinv⟩ := hinv
        obtain ⟨u181, hinv⟩ := hinv
        obtain ⟨u182, hinv⟩ := hinv
        obtain ⟨u183, hinv⟩ := hinv
        obtain ⟨u184, hinv⟩ := hinv
        obtain ⟨u185, hinv⟩ := hinv
        obtain ⟨u186, hinv⟩ := hinv
        obtain ⟨u187, hinv⟩ := hinv
        obtain ⟨u188, hinv⟩ := hinv
        obtain ⟨u189, hinv⟩ := hinv
        obtain ⟨u190, hinv⟩ := hinv
        obtain ⟨u191, hinv⟩ := hinv
        obtain ⟨u192, hinv⟩ := hinv
        obtain ⟨u193, hinv⟩ := hinv
        obtain ⟨u194, hinv⟩ := hinv
        obtain ⟨u195, hinv⟩ := hinv
        obtain ⟨u196, hinv⟩ := hinv
        obtain ⟨u197, hinv⟩ := hinv
        obtain ⟨u198, hinv⟩ := hinv
        obtain ⟨u199, hinv⟩ := hinv
        obtain ⟨u200, hinv⟩ := hinv
        obtain ⟨u201, hinv⟩ := hinv
        obtain ⟨u202, hinv⟩ := hinv
        obtain ⟨u203, hinv⟩ := hinv
        obtain ⟨u204, hinv⟩ := hinv
        obtain ⟨u205, hinv⟩ := hinv
        obtain ⟨u206, hinv⟩ := hinv
        obtain ⟨u207, hinv⟩ := hinv
        obtain ⟨u208, hinv⟩ := hinv
        obtain ⟨u209, hinv⟩ := hinv
        obtain ⟨u210, hinv⟩ := hinv
        obtain ⟨u211, hinv⟩ := hinv
        obtain ⟨u212, hinv⟩ := hinv
        obtain ⟨u213, hinv⟩ := hinv
        obtain ⟨u214, hinv⟩ := hinv
        obtain ⟨u215, hinv⟩ := hinv
        obtain ⟨u216, hinv⟩ := hinv
        obtain ⟨u217, hinv⟩ := hinv
        obtain ⟨u218, hinv⟩ := hinv
        obtain ⟨u219, hinv⟩ := hinv
        obtain ⟨u220, hinv⟩ := hinv
        obtain ⟨u221, hinv⟩ := hinv
        obtain ⟨u222, hinv⟩ := hinv
        obtain ⟨u223, hinv⟩ := hinv
        obtain ⟨u224, hinv⟩ := hinv
        obtain ⟨hrel, ha0⟩ := hinv
        subst ha0
        obtain ⟨ws, bs, ⟨Al, cl, rfl⟩, HW, HB, HD, hcnt⟩ := hrel
        have e1 : wr.cell? ⟨pb, 1, none⟩ = some (.slice A L.length cp) := (HB.out.cell (p := ⟨pb, 1, none⟩) (by show pb < pb + 1; omega)).trans hc1
        have hsr := HB.out.size
        have hpr : pb < wr.heap.size := by omega
        cases ws with
        | nil =>
          have HE : Hid (R = none) := Lib.hid (by rw [← HD.out]; rw [show ([] : List Pk.Way).map Pk.Way.ent = [] from rfl, Pk.dfs_nil])
          go_wp2_with fail
          ((try simp only [Exit.inBlock, Exit.then]); refine bodyPost_ret (results_tmp2 rfl _ _ _) rfl ?_)
          refine ⟨_, _, rfl, ?_, by rw [HE.out]; exact ⟨rfl, rfl⟩⟩
          exact HB0.out.trans (HB.out.mono (by have := HPB.out; omega))
        | cons x ws =>
          obtain ⟨pc, a, v, r⟩ := x
          rcases Pk.fetch_cases2 L pc with ⟨ef, hr⟩ | ⟨x, ef, hpc0, hpc1⟩
          · exact walk_out hL ht hG hk hGI hGI2 hnb hnI hnw hnwI HNN hlt HPR HPB HB0 HP1 hsz hc1 hc0 hwI hw2 hw4 HW HB HD hcnt ef hr
          cases hns : Pk.rdS t.length bs pc.toNat a with
          | true => exact walk_seen hL ht hG hk hGI hGI2 hnb hnI hnw hnwI HNN hlt HPR HPB HB0 HP1 hsz hc1 hc0 hwI hw2 hw4 HW HB HD hcnt ef hpc0 hpc1 hns
          | false =>
            by_cases hop1 : x.op = 2
            · exact walk_op2 hL ht hG hk hGI hGI2 hnb hnI hnw hnwI HNN hlt HPR HPB HB0 HP1 hsz hc1 hc0 hwI hw2 hw4 HW HB HD hcnt ef hpc0 hpc1 hns hop1
            by_cases hop2 : x.op = 3
            · exact walk_op3 hL ht hG hk hGI hGI2 hnb hnI hnw hnwI HNN hlt HPR HPB HB0 HP1 hsz hc1 hc0 hwI hw2 hw4 HW HB HD hcnt ef hpc0 hpc1 hns hop2
            by_cases hop3 : x.op = 7
            · exact walk_op7 hL ht hG hk hGI hGI2 hnb hnI hnw hnwI HNN hlt HPR HPB HB0 HP1 hsz hc1 hc0 hwI hw2 hw4 HW HB HD hcnt ef hpc0 hpc1 hns hop3
            by_cases hop4 : x.op = 5
            · exact walk_op5 hL ht hG hk hGI hGI2 hnb hnI hnw hnwI HNN hlt HPR HPB HB0 HP1 hsz hc1 hc0 hwI hw2 hw4 HW HB HD hcnt ef hpc0 hpc1 hns hop4
            by_cases hop5 : x.op = 6
            · exact walk_op6 hL ht hG hk hGI hGI2 hnb hnI hnw hnwI HNN hlt HPR HPB HB0 HP1 hsz hc1 hc0 hwI hw2 hw4 HW HB HD hcnt ef hpc0 hpc1 hns hop5
            by_cases hop6 : x.op = 1
            · exact walk_op1 hL ht hG hk hGI hGI2 hnb hnI hnw hnwI HNN hlt HPR HPB HB0 HP1 hsz hc1 hc0 hwI hw2 hw4 HW HB HD hcnt ef hpc0 hpc1 hns hop6
            by_cases hop7 : x.op = 4
            · exact walk_op4 hL ht hG hk hGI hGI2 hnb hnI hnw hnwI HNN hlt HPR HPB HB0 HP1 hsz hc1 hc0 hwI hw2 hw4 HW HB HD hcnt ef hpc0 hpc1 hns hop7
            exact walk_other hL ht hG hk hGI hGI2 hnb hnI hnw hnwI HNN hlt HPR HPB HB0 HP1 hsz hc1 hc0 hwI hw2 hw4 HW HB HD hcnt ef hpc0 hpc1 hns hop1 hop2 hop3 hop4 hop5 hop6 hop7
end Go.Proofs.Ytelbabgkpflckaa
