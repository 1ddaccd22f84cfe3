import Derived.Test.YtcnmbldikjljeaaGreatDoorT28
import Derived.Deep.CutRange
namespace Go.Proofs.YtcnmbldikjljeaaGreatDoor
open Go.RowKit

set_option maxRecDepth 1000000 in
set_option maxHeartbeats 16000000 in
theorem t_resume {W wr : World} {own : Nat → Nat} {p c g : Nat} {es : List Ent} {fs : List Int} {ps : List (List (Int × Int))} {oa : Option Addr} {oc : Nat} {vs : Nat → Value × Value} {d : Dk} {ws : Nat → Wt} {ms : List Mv} {ma : Option Addr} {mc : Nat} {i : Nat} (HMV : MV W (.slice ma ms.length mc) ms) (hml : ms.length ≤ 9223372036854775807) (hlt : i < ms.length) (h150 : i < 150) (Q : TY W wr own p c g es fs ps (.slice oa (nP ps) oc) vs d ws (80 * i) i) (hkind : pk ms[i].1 10 = 9) (K : Act → World → Prop) (Q' : Exit → Act → World → Prop)
    {c0 c1 c3 c4 c5 c6 c14 c15 c16 c17 c18 c19 c20 c21 c22 c23 c24 c25 c26 c27 c28 c29 c30 c31 c32 c33 c34 c35 c36 c37 c38 c39 c40 c41 c42 c43 c44 c45 c46 c47 c48 c49 c50 c51 c52 c53 c54 c55 c56 c57 c58 c59 c60 c61 c62 c63 c64 c65 c66 c67 c68 c69 c70 c71 c72 c73 c74 c75 c76 c77 c78 c79 c80 c81 c82 c83 c84 c85 c86 c87 c88 c89 c90 c91 c92 c93 c94 c95 c96 c97 c98 c99 c100 c101 c102 c103 c104 c105 c106 c107 c108 c109 c110 c111 c112 c113 c114 c115 c116 c117 c118 c119 c120 c121 c122 c123 c124 c125 c126 c127 c128 c129 c130 c131 c132 c133 c134 c135 c136 c137 c138 c139 c140 c141 c142 c143 c144 c145 c146 c147 c148 c149 c150 c151 c152 c153 c154 c155 c156 c157 c158 c159 c160 c161 c162 c163 c164 c165 c166 c167 c168 c169 c170 c171 c172 c173 c174 c175 c176 c177 c178 c179 c180 c181 c182 c183 c184 c185 c186 c187 c188 c189 c190 c191 c192 c193 c194 c195 c196 c197 c198 c199 c200 c201 c202 c203 c204 c205 c206 c207 c208 c209 c210 c211 c212 c213 c214 c215 c216 c217 c218 c219 c220 c221 c222 c223 c224 c225 c226 c227 c228 c229 c230 c231 c232 c233 c234 c235 c236 c237 c238 c239 c240 c241 c242 c243 c244 c245 c246 c247 c248 c249 c250 c251 c252 c253 c254 c255 c256 c257 c258 c259 c260 : Value}
    (hend : ∀ (u6 u14 u15 u16 u17 u18 u19 u20 u21 u22 u23 u24 u25 u26 u27 u28 u29 u30 u31 u32 u43 u44 u45 u46 u47 u48 u49 u50 u51 u52 u53 u54 u55 u56 u57 u58 u59 u60 u61 u62 u63 u64 u65 u66 u67 u68 u69 u70 u71 u72 u73 u74 u75 u76 u77 u78 u79 u80 u81 u82 u83 u84 u85 u86 u87 u88 u89 u90 u91 u92 u93 u94 u95 u96 u97 u98 u99 u100 u101 u102 u103 u104 u105 u106 u107 u108 u109 u110 u111 u112 u113 u114 u115 u116 u117 u118 u119 u120 u121 u122 u123 u124 u125 u126 u127 u128 u129 u130 u131 u132 u133 u134 u135 u136 u137 u138 u139 u140 u141 u142 u143 u144 u145 u146 u147 u148 u149 u150 u151 u152 u153 u154 u155 u156 u157 u158 u159 u160 u161 u162 u163 u164 u165 u166 u167 u168 u169 u170 u171 u172 u173 u174 u175 u176 u177 u178 u179 u180 u181 u182 u183 u184 u185 u186 u187 u188 u189 u190 u191 u192 u193 u194 u195 u196 u197 u198 u199 u200 u201 u202 u203 u204 u205 u206 u207 u208 u209 u210 u211 u212 u213 u214 u215 u216 u217 u218 u219 u220 u221 u222 u223 u224 u225 u226 u227 u228 u229 u230 u231 u232 u233 u234 u235 u236 u237 u238 u239 u240 u241 u242 u243 u244 u245 u246 u247 u248 u249 u250 u251 u252 u253 u254 u255 u256 u257 u258 u259 u260 v11 v12 v13 : Value) (own' : Nat → Nat) (d' : Dk) (ws' : Nat → Wt) (wz : World), v11 = .int .i64 d'.made → v12 = .int .i64 d'.told → v13 = .int .i64 ((i + 1 : Nat) : Int) → TY W wz own' p c g es fs ps (.slice oa (nP ps) oc) vs d' ws' (80 * ((i + 1 : Nat) : Int)) ((i + 1 : Nat) : Int) → K ⟨List.toArray (c0 :: c1 :: .slice ma ms.length mc :: c3 :: c4 :: c5 :: u6 :: P0 p :: P0 c :: .slice oa (nP ps) oc :: .slice (some ⟨g, 0, none⟩) 200 200 :: v11 :: v12 :: v13 :: u14 :: u15 :: u16 :: u17 :: u18 :: u19 :: u20 :: u21 :: u22 :: u23 :: u24 :: u25 :: u26 :: u27 :: u28 :: u29 :: u30 :: u31 :: u32 :: c33 :: c34 :: c35 :: c36 :: c37 :: c38 :: c39 :: c40 :: c41 :: c42 :: u43 :: u44 :: u45 :: u46 :: u47 :: u48 :: u49 :: u50 :: u51 :: u52 :: u53 :: u54 :: u55 :: u56 :: u57 :: u58 :: u59 :: u60 :: u61 :: u62 :: u63 :: u64 :: u65 :: u66 :: u67 :: u68 :: u69 :: u70 :: u71 :: u72 :: u73 :: u74 :: u75 :: u76 :: u77 :: u78 :: u79 :: u80 :: u81 :: u82 :: u83 :: u84 :: u85 :: u86 :: u87 :: u88 :: u89 :: u90 :: u91 :: u92 :: u93 :: u94 :: u95 :: u96 :: u97 :: u98 :: u99 :: u100 :: u101 :: u102 :: u103 :: u104 :: u105 :: u106 :: u107 :: u108 :: u109 :: u110 :: u111 :: u112 :: u113 :: u114 :: u115 :: u116 :: u117 :: u118 :: u119 :: u120 :: u121 :: u122 :: u123 :: u124 :: u125 :: u126 :: u127 :: u128 :: u129 :: u130 :: u131 :: u132 :: u133 :: u134 :: u135 :: u136 :: u137 :: u138 :: u139 :: u140 :: u141 :: u142 :: u143 :: u144 :: u145 :: u146 :: u147 :: u148 :: u149 :: u150 :: u151 :: u152 :: u153 :: u154 :: u155 :: u156 :: u157 :: u158 :: u159 :: u160 :: u161 :: u162 :: u163 :: u164 :: u165 :: u166 :: u167 :: u168 :: u169 :: u170 :: u171 :: u172 :: u173 :: u174 :: u175 :: u176 :: u177 :: u178 :: u179 :: u180 :: u181 :: u182 :: u183 :: u184 :: u185 :: u186 :: u187 :: u188 :: u189 :: u190 :: u191 :: u192 :: u193 :: u194 :: u195 :: u196 :: u197 :: u198 :: u199 :: u200 :: u201 :: u202 :: u203 :: u204 :: u205 :: u206 :: u207 :: u208 :: u209 :: u210 :: u211 :: u212 :: u213 :: u214 :: u215 :: u216 :: u217 :: u218 :: u219 :: u220 :: u221 :: u222 :: u223 :: u224 :: u225 :: u226 :: u227 :: u228 :: u229 :: u230 :: u231 :: u232 :: u233 :: u234 :: u235 :: u236 :: u237 :: u238 :: u239 :: u240 :: u241 :: u242 :: u243 :: u244 :: u245 :: u246 :: u247 :: u248 :: u249 :: u250 :: u251 :: u252 :: u253 :: u254 :: u255 :: u256 :: u257 :: u258 :: u259 :: u260 :: []), []⟩ wz) :
    Code.wp Tryz.prog ((Tryz.f7.body.bind firstLoop).getD .skip) (Exit.then K Q') ⟨List.toArray (c0 :: c1 :: .slice ma ms.length mc :: c3 :: c4 :: c5 :: c6 :: P0 p :: P0 c :: .slice oa (nP ps) oc :: .slice (some ⟨g, 0, none⟩) 200 200 :: .int .i64 d.made :: .int .i64 d.told :: .int .i64 i :: c14 :: c15 :: c16 :: c17 :: c18 :: c19 :: c20 :: c21 :: c22 :: c23 :: c24 :: c25 :: c26 :: c27 :: c28 :: c29 :: c30 :: c31 :: c32 :: c33 :: c34 :: c35 :: c36 :: c37 :: c38 :: c39 :: c40 :: c41 :: c42 :: c43 :: c44 :: c45 :: c46 :: c47 :: c48 :: c49 :: c50 :: c51 :: c52 :: c53 :: c54 :: c55 :: c56 :: c57 :: c58 :: c59 :: c60 :: c61 :: c62 :: c63 :: c64 :: c65 :: c66 :: c67 :: c68 :: c69 :: c70 :: c71 :: c72 :: c73 :: c74 :: c75 :: c76 :: c77 :: c78 :: c79 :: c80 :: c81 :: c82 :: c83 :: c84 :: c85 :: c86 :: c87 :: c88 :: c89 :: c90 :: c91 :: c92 :: c93 :: c94 :: c95 :: c96 :: c97 :: c98 :: c99 :: c100 :: c101 :: c102 :: c103 :: c104 :: c105 :: c106 :: c107 :: c108 :: c109 :: c110 :: c111 :: c112 :: c113 :: c114 :: c115 :: c116 :: c117 :: c118 :: c119 :: c120 :: c121 :: c122 :: c123 :: c124 :: c125 :: c126 :: c127 :: c128 :: c129 :: c130 :: c131 :: c132 :: c133 :: c134 :: c135 :: c136 :: c137 :: c138 :: c139 :: c140 :: c141 :: c142 :: c143 :: c144 :: c145 :: c146 :: c147 :: c148 :: c149 :: c150 :: c151 :: c152 :: c153 :: c154 :: c155 :: c156 :: c157 :: c158 :: c159 :: c160 :: c161 :: c162 :: c163 :: c164 :: c165 :: c166 :: c167 :: c168 :: c169 :: c170 :: c171 :: c172 :: c173 :: c174 :: c175 :: c176 :: c177 :: c178 :: c179 :: c180 :: c181 :: c182 :: c183 :: c184 :: c185 :: c186 :: c187 :: c188 :: c189 :: c190 :: c191 :: c192 :: c193 :: c194 :: c195 :: c196 :: c197 :: c198 :: c199 :: c200 :: c201 :: c202 :: c203 :: c204 :: c205 :: c206 :: c207 :: c208 :: c209 :: c210 :: c211 :: c212 :: c213 :: c214 :: c215 :: c216 :: c217 :: c218 :: c219 :: c220 :: c221 :: c222 :: c223 :: c224 :: c225 :: c226 :: c227 :: c228 :: c229 :: c230 :: c231 :: c232 :: c233 :: c234 :: c235 :: c236 :: c237 :: c238 :: c239 :: c240 :: c241 :: c242 :: c243 :: c244 :: c245 :: c246 :: c247 :: c248 :: c249 :: c250 :: c251 :: c252 :: c253 :: c254 :: c255 :: c256 :: c257 :: c258 :: c259 :: c260 :: []), []⟩ wr := by
  conv => arg 2; whnf
  have HE := hide hend
  have HA := hide (And.intro True.intro (And.intro True.intro HMV))
  have HST := hide (stgP_ok ps)
  have hn := nP_bd (ps := ps)
  clear hend HMV
  have hlt' : (i : Int) < ms.length := by omega
  have h150' : (i : Int) < 150 := by omega
  obtain ⟨mb, mo, mc2, hmf⟩ := HA.out.2.2.row.some (by omega) (by omega)
  simp only [Value.slice.injEq] at hmf
  obtain ⟨rfl, _, rfl⟩ := hmf
  obtain ⟨m0, m1, m2⟩ := (HA.out.2.2.on Q.kw.low).at i hlt
  have hr := HA.out.2.2.rng _ (List.getElem_mem hlt)
  generalize ms[i] = mi at *
  obtain ⟨mk, mA, mB⟩ := mi
  simp only at m0 m1 m2 hr hkind
  obtain ⟨hr0, hr1, hr2⟩ := hr
  have hbx : Below wr.heap.size wr (wr.alloc (Obj.cells #[.int .i64 mk, .int .i64 mA, .int .i64 mB] 41)) := (Below.refl _ _).alloc (Nat.le_refl _) _
  have x0 : (wr.alloc (Obj.cells #[.int .i64 mk, .int .i64 mA, .int .i64 mB] 41)).heap[wr.heap.size]? = some (.cells #[.int .i64 mk, .int .i64 mA, .int .i64 mB] 41 (0, 0)) := heap_alloc_new _ _
  have hxo : own wr.heap.size = 0 := Classical.byContradiction fun h => by have := Q.kw.lt _ h; omega
  have HQ := hide (And.intro (Q.below hbx) (And.intro x0 hxo))
  have HC := hide (prgI.now HQ.out.1.pk.psi (by decide) (HQ.out.1.pre (by omega)))
  have dm0 := Q.pk.ok.m0
  have dm1 := Q.md
  have dt0 := Q.pk.ok.t0
  have dt1 := Q.pk.ok.t1
  have dk0 := Q.pk.ok.k0
  have dk1 := Q.pk.ok.k1
  clear Q hbx x0 hxo
  go_wp2_with fail
  refine HC.out.mono ?_
  rintro e w2 ⟨rfl, own2, psi2, k2⟩
  have Q2 := HQ.out.1.call psi2 k2 HQ.out.1.pk.ok HQ.out.1.pk.rs HQ.out.1.wa HQ.out.1.md
  obtain ⟨x2, o2⟩ := k2.at HQ.out.2.1 (by rw [HQ.out.2.2]; decide)
  rw [HQ.out.2.2] at o2
  have hxl : wr.heap.size < w2.heap.size := (Array.getElem?_eq_some_iff.1 x2).1
  have y0 : w2.cell? ⟨wr.heap.size, 0, none⟩ = some (.int .i64 mk) := by simp [World.cell?, x2]
  have y1 : w2.cell? ⟨wr.heap.size, 1, none⟩ = some (.int .i64 mA) := by simp [World.cell?, x2]
  have y2 : w2.cell? ⟨wr.heap.size, 2, none⟩ = some (.int .i64 mB) := by simp [World.cell?, x2]
  have HQ2 := hide (And.intro Q2 (And.intro x2 o2))
  have HPA := hide (fun u => pick_any mA 12 u hr1.1 hr1.2 (by omega) (by omega))
  have HPK := hide (fun u => pick_any mk 10 u hr0.1 hr0.2 (by omega) (by omega))
  have pa0 := pk_lo mA 12 (by omega)
  have pa1 := pk_hi mA 12 (by omega)
  have pk0 := pk_lo mk 10 (by omega)
  have pk1 := pk_hi mk 10 (by omega)
  obtain ⟨id, hid⟩ : ∃ id : Nat, 1 + pk mA 12 = id := ⟨(1 + pk mA 12).toNat, by omega⟩
  have hid1 : id ≤ 12 := by omega
  have hwid : IntKind.i64.wrap (1 + pk mA 12) = id := by rw [IntWalk.i64_in _ (by omega)]; exact hid
  clear Q2 psi2 k2 HQ HC x2 o2 m0 m1 m2
  go_wp2_with fail
  refine (HPA.out _).mono ?_
  rintro e w' ⟨rfl, rfl⟩
  have hid200 : (id : Int) < 200 := by omega
  rw [hkind] at HPK
  clear hkind pk0 pk1
  have Q := HQ2.out.1
  have HC := hide (prgI.resume Q.pk.psi (by decide) (Q.pre (by omega)) id)
  obtain ⟨A1, A2, A3⟩ := Q.wa.goes Q.pk.psi.inv Q.pk.ok id
  have hok := (resume_ok Q.pk.ok Q.pk.rs id).1
  have hrs := (resume_ok Q.pk.ok Q.pk.rs id).2
  have hmd : (resumeC (FP es fs) d id).1.made = d.made ∧ (resumeC (FP es fs) d id).1.told = d.told ∧ (resumeC (FP es fs) d id).1.time = d.time := by
    unfold resumeC
    split
    · exact ⟨rfl, rfl, rfl⟩
    · split
      · exact ⟨rfl, rfl, rfl⟩
      · first | exact ⟨rfl, rfl, rfl⟩ | (split <;> exact ⟨rfl, rfl, rfl⟩)
  generalize resumeC (FP es fs) d id = X at *
  obtain ⟨d', er⟩ := X
  simp only at A1 A2 A3 hok hrs hmd HC
  obtain ⟨hm1, hm2, hm3⟩ := hmd
  have HAA := hide (And.intro A2 A3)
  have HOK := hide (And.intro hok hrs)
  have HA1 := hide A1
  clear Q A1 A2 A3 hok hrs
  go_wp2_with fail
  refine (HPK.out _).mono ?_
  rintro e w' ⟨rfl, rfl⟩
  go_wp2_with fail
  refine HC.out.mono ?_
  rintro e w3 ⟨rfl, own3, psi3, k3⟩
  have og2 := HQ2.out.1.og
  have M3 := HQ2.out.1.wm.kept k3 (by rw [og2]; decide)
  have z4 : w3.cell? ⟨g, id * 7 + 4, none⟩ = some (.bool (ws id).there) := M3.cell id 4 (by omega) (by omega)
  have z0 : w3.cell? ⟨g, id * 7, none⟩ = some (.int .i64 (ws id).since) := M3.cell id 0 (by omega) (by omega)
  have z1 : w3.cell? ⟨g, id * 7 + 1, none⟩ = some (.int .i64 (ws id).togo) := M3.cell id 1 (by omega) (by omega)
  have z6 : w3.cell? ⟨g, id * 7 + 6, none⟩ = some (.bool (ws id).held) := M3.cell id 6 (by omega) (by omega)
  have f0 := M3.frz (id * 7)
  have f1 := M3.frz (id * 7 + 1)
  have f6 := M3.frz (id * 7 + 6)
  have HM3 := hide (And.intro M3 (And.intro psi3 k3))
  clear M3 psi3 k3 HC
  by_cases hgo : (ws id).there = true ∧ (ws id).held = true
  · have her := HA1.out.2 hgo
    subst her
    rw [hgo.1] at z4
    rw [hgo.2] at z6
    have hwa := HAA.out.1 rfl
    have hk : KeptS own3 own3 (fun x => x = 3) w3 w3 := .of_below (Below.refl _ _) (HM3.out.2.2.bound)
    have hog3 := HQ2.out.1.g3 HM3.out.2.2
    have HW := hide (And.intro hwa hk)
    clear hwa hk
    go_wp2_with fail
    have e0 : WM w3 g (upd ws id (ws id)) := by rw [upd_self]; exact HM3.out.1
    have e1 := e0.put 6 (by omega) ⟨(ws id).since, (ws id).togo, (ws id).stage, (ws id).level, (ws id).there, (ws id).on, false⟩ (v := .bool false) rfl (fun c' h1 h2 => by rcases c' with _ | _ | _ | _ | _ | _ | _ | c' <;> first | rfl | omega)
    have e2 := e1.put 0 (by omega) ⟨d.time, (ws id).togo, (ws id).stage, (ws id).level, (ws id).there, (ws id).on, false⟩ (v := .int .i64 d.time) rfl (fun c' h1 h2 => by rcases c' with _ | _ | _ | _ | _ | _ | _ | c' <;> first | rfl | omega)
    refine HE.out _ _ _ _ _ _ _ _ _ _ _ _ _ _ _ _ _ _ _ _ _ _ _ _ _ _ _ _ _ _ _ _ _ _ _ _ _ _ _ _ _ _ _ _ _ _ _ _ _ _ _ _ _ _ _ _ _ _ _ _ _ _ _ _ _ _ _ _ _ _ _ _ _ _ _ _ _ _ _ _ _ _ _ _ _ _ _ _ _ _ _ _ _ _ _ _ _ _ _ _ _ _ _ _ _ _ _ _ _ _ _ _ _ _ _ _ _ _ _ _ _ _ _ _ _ _ _ _ _ _ _ _ _ _ _ _ _ _ _ _ _ _ _ _ _ _ _ _ _ _ _ _ _ _ _ _ _ _ _ _ _ _ _ _ _ _ _ _ _ _ _ _ _ _ _ _ _ _ _ _ _ _ _ _ _ _ _ _ _ _ _ _ _ _ _ _ _ _ _ _ _ _ _ _ _ _ _ _ _ _ _ _ _ _ _ _ _ _ _ _ _ _ _ _ _ _ _ _ _ _ _ _ _ _ _ _ _ _ _ _ _ own3 d' (upd ws id (resumeW (ws id) d.time)) _ ?_ ?_ ?_ ?_
    · exact by rw [hm1]
    · exact by rw [hm2]
    · exact by go_num
    · exact HQ2.out.1.both HM3.out.2.1 HM3.out.2.2 (HOK.out.1.mono (by omega)) HOK.out.2 (by omega) ((HW.out.2.setG (.inl hog3)).setG (.inl hog3)) e2 (by rw [hm3]; exact HW.out.1)
  · have hne : ¬ er = 0 := fun e => hgo (HA1.out.1 e)
    have hbe : (er == 0) = false := by simpa using hne
    have hdd := HAA.out.2 hne
    subst hdd
    have hx : (ws id).there = false ∨ ((ws id).there = true ∧ (ws id).held = false) := by
      revert hgo
      cases (ws id).there <;> cases (ws id).held <;> simp
    clear hgo hne
    have HK3 := hide (HQ2.out.1.call HM3.out.2.1 HM3.out.2.2 (HOK.out.1.mono (show 80 * (i : Int) ≤ 80 * ((i + 1 : Nat) : Int) by omega)) HOK.out.2 HQ2.out.1.wa (show d'.made ≤ ((i + 1 : Nat) : Int) by omega))
    rcases hx with t1 | ⟨t1, t2⟩
    · rw [t1] at z4
      go_wp2_with fail
      refine HE.out _ _ _ _ _ _ _ _ _ _ _ _ _ _ _ _ _ _ _ _ _ _ _ _ _ _ _ _ _ _ _ _ _ _ _ _ _ _ _ _ _ _ _ _ _ _ _ _ _ _ _ _ _ _ _ _ _ _ _ _ _ _ _ _ _ _ _ _ _ _ _ _ _ _ _ _ _ _ _ _ _ _ _ _ _ _ _ _ _ _ _ _ _ _ _ _ _ _ _ _ _ _ _ _ _ _ _ _ _ _ _ _ _ _ _ _ _ _ _ _ _ _ _ _ _ _ _ _ _ _ _ _ _ _ _ _ _ _ _ _ _ _ _ _ _ _ _ _ _ _ _ _ _ _ _ _ _ _ _ _ _ _ _ _ _ _ _ _ _ _ _ _ _ _ _ _ _ _ _ _ _ _ _ _ _ _ _ _ _ _ _ _ _ _ _ _ _ _ _ _ _ _ _ _ _ _ _ _ _ _ _ _ _ _ _ _ _ _ _ _ _ _ _ _ _ _ _ _ _ _ _ _ _ _ _ _ _ _ _ _ _ own3 d' (ws) _ ?_ ?_ ?_ ?_
      · exact rfl
      · exact rfl
      · exact by go_num
      · exact HK3.out
    · rw [t1] at z4
      rw [t2] at z6
      go_wp2_with fail
      refine HE.out _ _ _ _ _ _ _ _ _ _ _ _ _ _ _ _ _ _ _ _ _ _ _ _ _ _ _ _ _ _ _ _ _ _ _ _ _ _ _ _ _ _ _ _ _ _ _ _ _ _ _ _ _ _ _ _ _ _ _ _ _ _ _ _ _ _ _ _ _ _ _ _ _ _ _ _ _ _ _ _ _ _ _ _ _ _ _ _ _ _ _ _ _ _ _ _ _ _ _ _ _ _ _ _ _ _ _ _ _ _ _ _ _ _ _ _ _ _ _ _ _ _ _ _ _ _ _ _ _ _ _ _ _ _ _ _ _ _ _ _ _ _ _ _ _ _ _ _ _ _ _ _ _ _ _ _ _ _ _ _ _ _ _ _ _ _ _ _ _ _ _ _ _ _ _ _ _ _ _ _ _ _ _ _ _ _ _ _ _ _ _ _ _ _ _ _ _ _ _ _ _ _ _ _ _ _ _ _ _ _ _ _ _ _ _ _ _ _ _ _ _ _ _ _ _ _ _ _ _ _ _ _ _ _ _ _ _ _ _ _ _ own3 d' (ws) _ ?_ ?_ ?_ ?_
      · exact rfl
      · exact rfl
      · exact by go_num
      · exact HK3.out
end Go.Proofs.YtcnmbldikjljeaaGreatDoor
namespace Go.Proofs.YtcnmbldikjljeaaGreatDoor
open Go.RowKit

set_option maxRecDepth 1000000 in
set_option maxHeartbeats 16000000 in
theorem t_hold {W wr : World} {own : Nat → Nat} {p c g : Nat} {es : List Ent} {fs : List Int} {ps : List (List (Int × Int))} {oa : Option Addr} {oc : Nat} {vs : Nat → Value × Value} {d : Dk} {ws : Nat → Wt} {ms : List Mv} {ma : Option Addr} {mc : Nat} {i : Nat} (HMV : MV W (.slice ma ms.length mc) ms) (hml : ms.length ≤ 9223372036854775807) (hlt : i < ms.length) (h150 : i < 150) (Q : TY W wr own p c g es fs ps (.slice oa (nP ps) oc) vs d ws (80 * i) i) (hkind : pk ms[i].1 10 = 8) (K : Act → World → Prop) (Q' : Exit → Act → World → Prop)
    {c0 c1 c3 c4 c5 c6 c14 c15 c16 c17 c18 c19 c20 c21 c22 c23 c24 c25 c26 c27 c28 c29 c30 c31 c32 c33 c34 c35 c36 c37 c38 c39 c40 c41 c42 c43 c44 c45 c46 c47 c48 c49 c50 c51 c52 c53 c54 c55 c56 c57 c58 c59 c60 c61 c62 c63 c64 c65 c66 c67 c68 c69 c70 c71 c72 c73 c74 c75 c76 c77 c78 c79 c80 c81 c82 c83 c84 c85 c86 c87 c88 c89 c90 c91 c92 c93 c94 c95 c96 c97 c98 c99 c100 c101 c102 c103 c104 c105 c106 c107 c108 c109 c110 c111 c112 c113 c114 c115 c116 c117 c118 c119 c120 c121 c122 c123 c124 c125 c126 c127 c128 c129 c130 c131 c132 c133 c134 c135 c136 c137 c138 c139 c140 c141 c142 c143 c144 c145 c146 c147 c148 c149 c150 c151 c152 c153 c154 c155 c156 c157 c158 c159 c160 c161 c162 c163 c164 c165 c166 c167 c168 c169 c170 c171 c172 c173 c174 c175 c176 c177 c178 c179 c180 c181 c182 c183 c184 c185 c186 c187 c188 c189 c190 c191 c192 c193 c194 c195 c196 c197 c198 c199 c200 c201 c202 c203 c204 c205 c206 c207 c208 c209 c210 c211 c212 c213 c214 c215 c216 c217 c218 c219 c220 c221 c222 c223 c224 c225 c226 c227 c228 c229 c230 c231 c232 c233 c234 c235 c236 c237 c238 c239 c240 c241 c242 c243 c244 c245 c246 c247 c248 c249 c250 c251 c252 c253 c254 c255 c256 c257 c258 c259 c260 : Value}
    (hend : ∀ (u6 u14 u15 u16 u17 u18 u19 u20 u21 u22 u23 u24 u25 u26 u27 u28 u29 u30 u31 u32 u43 u44 u45 u46 u47 u48 u49 u50 u51 u52 u53 u54 u55 u56 u57 u58 u59 u60 u61 u62 u63 u64 u65 u66 u67 u68 u69 u70 u71 u72 u73 u74 u75 u76 u77 u78 u79 u80 u81 u82 u83 u84 u85 u86 u87 u88 u89 u90 u91 u92 u93 u94 u95 u96 u97 u98 u99 u100 u101 u102 u103 u104 u105 u106 u107 u108 u109 u110 u111 u112 u113 u114 u115 u116 u117 u118 u119 u120 u121 u122 u123 u124 u125 u126 u127 u128 u129 u130 u131 u132 u133 u134 u135 u136 u137 u138 u139 u140 u141 u142 u143 u144 u145 u146 u147 u148 u149 u150 u151 u152 u153 u154 u155 u156 u157 u158 u159 u160 u161 u162 u163 u164 u165 u166 u167 u168 u169 u170 u171 u172 u173 u174 u175 u176 u177 u178 u179 u180 u181 u182 u183 u184 u185 u186 u187 u188 u189 u190 u191 u192 u193 u194 u195 u196 u197 u198 u199 u200 u201 u202 u203 u204 u205 u206 u207 u208 u209 u210 u211 u212 u213 u214 u215 u216 u217 u218 u219 u220 u221 u222 u223 u224 u225 u226 u227 u228 u229 u230 u231 u232 u233 u234 u235 u236 u237 u238 u239 u240 u241 u242 u243 u244 u245 u246 u247 u248 u249 u250 u251 u252 u253 u254 u255 u256 u257 u258 u259 u260 v11 v12 v13 : Value) (own' : Nat → Nat) (d' : Dk) (ws' : Nat → Wt) (wz : World), v11 = .int .i64 d'.made → v12 = .int .i64 d'.told → v13 = .int .i64 ((i + 1 : Nat) : Int) → TY W wz own' p c g es fs ps (.slice oa (nP ps) oc) vs d' ws' (80 * ((i + 1 : Nat) : Int)) ((i + 1 : Nat) : Int) → K ⟨List.toArray (c0 :: c1 :: .slice ma ms.length mc :: c3 :: c4 :: c5 :: u6 :: P0 p :: P0 c :: .slice oa (nP ps) oc :: .slice (some ⟨g, 0, none⟩) 200 200 :: v11 :: v12 :: v13 :: u14 :: u15 :: u16 :: u17 :: u18 :: u19 :: u20 :: u21 :: u22 :: u23 :: u24 :: u25 :: u26 :: u27 :: u28 :: u29 :: u30 :: u31 :: u32 :: c33 :: c34 :: c35 :: c36 :: c37 :: c38 :: c39 :: c40 :: c41 :: c42 :: u43 :: u44 :: u45 :: u46 :: u47 :: u48 :: u49 :: u50 :: u51 :: u52 :: u53 :: u54 :: u55 :: u56 :: u57 :: u58 :: u59 :: u60 :: u61 :: u62 :: u63 :: u64 :: u65 :: u66 :: u67 :: u68 :: u69 :: u70 :: u71 :: u72 :: u73 :: u74 :: u75 :: u76 :: u77 :: u78 :: u79 :: u80 :: u81 :: u82 :: u83 :: u84 :: u85 :: u86 :: u87 :: u88 :: u89 :: u90 :: u91 :: u92 :: u93 :: u94 :: u95 :: u96 :: u97 :: u98 :: u99 :: u100 :: u101 :: u102 :: u103 :: u104 :: u105 :: u106 :: u107 :: u108 :: u109 :: u110 :: u111 :: u112 :: u113 :: u114 :: u115 :: u116 :: u117 :: u118 :: u119 :: u120 :: u121 :: u122 :: u123 :: u124 :: u125 :: u126 :: u127 :: u128 :: u129 :: u130 :: u131 :: u132 :: u133 :: u134 :: u135 :: u136 :: u137 :: u138 :: u139 :: u140 :: u141 :: u142 :: u143 :: u144 :: u145 :: u146 :: u147 :: u148 :: u149 :: u150 :: u151 :: u152 :: u153 :: u154 :: u155 :: u156 :: u157 :: u158 :: u159 :: u160 :: u161 :: u162 :: u163 :: u164 :: u165 :: u166 :: u167 :: u168 :: u169 :: u170 :: u171 :: u172 :: u173 :: u174 :: u175 :: u176 :: u177 :: u178 :: u179 :: u180 :: u181 :: u182 :: u183 :: u184 :: u185 :: u186 :: u187 :: u188 :: u189 :: u190 :: u191 :: u192 :: u193 :: u194 :: u195 :: u196 :: u197 :: u198 :: u199 :: u200 :: u201 :: u202 :: u203 :: u204 :: u205 :: u206 :: u207 :: u208 :: u209 :: u210 :: u211 :: u212 :: u213 :: u214 :: u215 :: u216 :: u217 :: u218 :: u219 :: u220 :: u221 :: u222 :: u223 :: u224 :: u225 :: u226 :: u227 :: u228 :: u229 :: u230 :: u231 :: u232 :: u233 :: u234 :: u235 :: u236 :: u237 :: u238 :: u239 :: u240 :: u241 :: u242 :: u243 :: u244 :: u245 :: u246 :: u247 :: u248 :: u249 :: u250 :: u251 :: u252 :: u253 :: u254 :: u255 :: u256 :: u257 :: u258 :: u259 :: u260 :: []), []⟩ wz) :
    Code.wp Tryz.prog ((Tryz.f7.body.bind firstLoop).getD .skip) (Exit.then K Q') ⟨List.toArray (c0 :: c1 :: .slice ma ms.length mc :: c3 :: c4 :: c5 :: c6 :: P0 p :: P0 c :: .slice oa (nP ps) oc :: .slice (some ⟨g, 0, none⟩) 200 200 :: .int .i64 d.made :: .int .i64 d.told :: .int .i64 i :: c14 :: c15 :: c16 :: c17 :: c18 :: c19 :: c20 :: c21 :: c22 :: c23 :: c24 :: c25 :: c26 :: c27 :: c28 :: c29 :: c30 :: c31 :: c32 :: c33 :: c34 :: c35 :: c36 :: c37 :: c38 :: c39 :: c40 :: c41 :: c42 :: c43 :: c44 :: c45 :: c46 :: c47 :: c48 :: c49 :: c50 :: c51 :: c52 :: c53 :: c54 :: c55 :: c56 :: c57 :: c58 :: c59 :: c60 :: c61 :: c62 :: c63 :: c64 :: c65 :: c66 :: c67 :: c68 :: c69 :: c70 :: c71 :: c72 :: c73 :: c74 :: c75 :: c76 :: c77 :: c78 :: c79 :: c80 :: c81 :: c82 :: c83 :: c84 :: c85 :: c86 :: c87 :: c88 :: c89 :: c90 :: c91 :: c92 :: c93 :: c94 :: c95 :: c96 :: c97 :: c98 :: c99 :: c100 :: c101 :: c102 :: c103 :: c104 :: c105 :: c106 :: c107 :: c108 :: c109 :: c110 :: c111 :: c112 :: c113 :: c114 :: c115 :: c116 :: c117 :: c118 :: c119 :: c120 :: c121 :: c122 :: c123 :: c124 :: c125 :: c126 :: c127 :: c128 :: c129 :: c130 :: c131 :: c132 :: c133 :: c134 :: c135 :: c136 :: c137 :: c138 :: c139 :: c140 :: c141 :: c142 :: c143 :: c144 :: c145 :: c146 :: c147 :: c148 :: c149 :: c150 :: c151 :: c152 :: c153 :: c154 :: c155 :: c156 :: c157 :: c158 :: c159 :: c160 :: c161 :: c162 :: c163 :: c164 :: c165 :: c166 :: c167 :: c168 :: c169 :: c170 :: c171 :: c172 :: c173 :: c174 :: c175 :: c176 :: c177 :: c178 :: c179 :: c180 :: c181 :: c182 :: c183 :: c184 :: c185 :: c186 :: c187 :: c188 :: c189 :: c190 :: c191 :: c192 :: c193 :: c194 :: c195 :: c196 :: c197 :: c198 :: c199 :: c200 :: c201 :: c202 :: c203 :: c204 :: c205 :: c206 :: c207 :: c208 :: c209 :: c210 :: c211 :: c212 :: c213 :: c214 :: c215 :: c216 :: c217 :: c218 :: c219 :: c220 :: c221 :: c222 :: c223 :: c224 :: c225 :: c226 :: c227 :: c228 :: c229 :: c230 :: c231 :: c232 :: c233 :: c234 :: c235 :: c236 :: c237 :: c238 :: c239 :: c240 :: c241 :: c242 :: c243 :: c244 :: c245 :: c246 :: c247 :: c248 :: c249 :: c250 :: c251 :: c252 :: c253 :: c254 :: c255 :: c256 :: c257 :: c258 :: c259 :: c260 :: []), []⟩ wr := by
  conv => arg 2; whnf
  have HE := hide hend
  have HA := hide (And.intro True.intro (And.intro True.intro HMV))
  have HST := hide (stgP_ok ps)
  have hn := nP_bd (ps := ps)
  clear hend HMV
  have hpt := parse_txt es fs (asc_txt es fs)
  have htl := txt_le es fs
  have HFEW := hide (parse_len (txtB es fs) (by show (theTxt es fs).toArray.size ≤ 200; simp; omega) hpt.1)
  clear hpt htl
  have hlt' : (i : Int) < ms.length := by omega
  have h150' : (i : Int) < 150 := by omega
  obtain ⟨mb, mo, mc2, hmf⟩ := HA.out.2.2.row.some (by omega) (by omega)
  simp only [Value.slice.injEq] at hmf
  obtain ⟨rfl, _, rfl⟩ := hmf
  obtain ⟨m0, m1, m2⟩ := (HA.out.2.2.on Q.kw.low).at i hlt
  have hr := HA.out.2.2.rng _ (List.getElem_mem hlt)
  generalize ms[i] = mi at *
  obtain ⟨mk, mA, mB⟩ := mi
  simp only at m0 m1 m2 hr hkind
  obtain ⟨hr0, hr1, hr2⟩ := hr
  have hbx : Below wr.heap.size wr (wr.alloc (Obj.cells #[.int .i64 mk, .int .i64 mA, .int .i64 mB] 41)) := (Below.refl _ _).alloc (Nat.le_refl _) _
  have x0 : (wr.alloc (Obj.cells #[.int .i64 mk, .int .i64 mA, .int .i64 mB] 41)).heap[wr.heap.size]? = some (.cells #[.int .i64 mk, .int .i64 mA, .int .i64 mB] 41 (0, 0)) := heap_alloc_new _ _
  have hxo : own wr.heap.size = 0 := Classical.byContradiction fun h => by have := Q.kw.lt _ h; omega
  have HQ := hide (And.intro (Q.below hbx) (And.intro x0 hxo))
  have HC := hide (prgI.now HQ.out.1.pk.psi (by decide) (HQ.out.1.pre (by omega)))
  have dm0 := Q.pk.ok.m0
  have dm1 := Q.md
  have dt0 := Q.pk.ok.t0
  have dt1 := Q.pk.ok.t1
  have dk0 := Q.pk.ok.k0
  have dk1 := Q.pk.ok.k1
  clear Q hbx x0 hxo
  go_wp2_with fail
  refine HC.out.mono ?_
  rintro e w2 ⟨rfl, own2, psi2, k2⟩
  have Q2 := HQ.out.1.call psi2 k2 HQ.out.1.pk.ok HQ.out.1.pk.rs HQ.out.1.wa HQ.out.1.md
  obtain ⟨x2, o2⟩ := k2.at HQ.out.2.1 (by rw [HQ.out.2.2]; decide)
  rw [HQ.out.2.2] at o2
  have hxl : wr.heap.size < w2.heap.size := (Array.getElem?_eq_some_iff.1 x2).1
  have y0 : w2.cell? ⟨wr.heap.size, 0, none⟩ = some (.int .i64 mk) := by simp [World.cell?, x2]
  have y1 : w2.cell? ⟨wr.heap.size, 1, none⟩ = some (.int .i64 mA) := by simp [World.cell?, x2]
  have y2 : w2.cell? ⟨wr.heap.size, 2, none⟩ = some (.int .i64 mB) := by simp [World.cell?, x2]
  have HQ2 := hide (And.intro Q2 (And.intro x2 o2))
  have HPA := hide (fun u => pick_any mA 12 u hr1.1 hr1.2 (by omega) (by omega))
  have HPK := hide (fun u => pick_any mk 10 u hr0.1 hr0.2 (by omega) (by omega))
  have pa0 := pk_lo mA 12 (by omega)
  have pa1 := pk_hi mA 12 (by omega)
  have pk0 := pk_lo mk 10 (by omega)
  have pk1 := pk_hi mk 10 (by omega)
  obtain ⟨id, hid⟩ : ∃ id : Nat, 1 + pk mA 12 = id := ⟨(1 + pk mA 12).toNat, by omega⟩
  have hid1 : id ≤ 12 := by omega
  have hwid : IntKind.i64.wrap (1 + pk mA 12) = id := by rw [IntWalk.i64_in _ (by omega)]; exact hid
  clear Q2 psi2 k2 HQ HC x2 o2 m0 m1 m2
  go_wp2_with fail
  refine (HPA.out _).mono ?_
  rintro e w' ⟨rfl, rfl⟩
  have hid200 : (id : Int) < 200 := by omega
  rw [hkind] at HPK
  clear hkind pk0 pk1
  have Q := HQ2.out.1
  have HC := hide (prgI.hold Q.pk.psi (by decide) (Q.pre (by omega)) id)
  obtain ⟨A1, A2, A3⟩ := Q.wa.holds Q.pk.psi.inv Q.pk.ok id
  have hok := hold_ok Q.pk.ok id
  have hrs := hold_rest Q.pk.ok Q.pk.rs id
  have hmd : (holdC (FP es fs) d id).1.made = d.made ∧ (holdC (FP es fs) d id).1.told = d.told ∧ (holdC (FP es fs) d id).1.time = d.time := by
    unfold holdC
    split
    · exact ⟨rfl, rfl, rfl⟩
    · split
      · exact ⟨rfl, rfl, rfl⟩
      · first | exact ⟨rfl, rfl, rfl⟩ | (split <;> exact ⟨rfl, rfl, rfl⟩)
  generalize holdC (FP es fs) d id = X at *
  obtain ⟨d', er⟩ := X
  simp only at A1 A2 A3 hok hrs hmd HC
  obtain ⟨hm1, hm2, hm3⟩ := hmd
  have HAA := hide (And.intro A2 A3)
  have HOK := hide (And.intro hok hrs)
  have HA1 := hide A1
  clear Q A1 A2 A3 hok hrs
  go_wp2_with fail
  refine (HPK.out _).mono ?_
  rintro e w' ⟨rfl, rfl⟩
  go_wp2_with fail
  refine HC.out.mono ?_
  rintro e w3 ⟨rfl, own3, psi3, k3⟩
  have og2 := HQ2.out.1.og
  have M3 := HQ2.out.1.wm.kept k3 (by rw [og2]; decide)
  have z4 : w3.cell? ⟨g, id * 7 + 4, none⟩ = some (.bool (ws id).there) := M3.cell id 4 (by omega) (by omega)
  have z0 : w3.cell? ⟨g, id * 7, none⟩ = some (.int .i64 (ws id).since) := M3.cell id 0 (by omega) (by omega)
  have z1 : w3.cell? ⟨g, id * 7 + 1, none⟩ = some (.int .i64 (ws id).togo) := M3.cell id 1 (by omega) (by omega)
  have z6 : w3.cell? ⟨g, id * 7 + 6, none⟩ = some (.bool (ws id).held) := M3.cell id 6 (by omega) (by omega)
  have f0 := M3.frz (id * 7)
  have f1 := M3.frz (id * 7 + 1)
  have f6 := M3.frz (id * 7 + 6)
  have HM3 := hide (And.intro M3 (And.intro psi3 k3))
  clear M3 psi3 k3 HC
  by_cases hgo : (ws id).there = true ∧ (ws id).held = false
  · have her := HA1.out.2 hgo
    subst her
    rw [hgo.1] at z4
    rw [hgo.2] at z6
    have hwa := HAA.out.1 rfl
    have hk : KeptS own3 own3 (fun x => x = 3) w3 w3 := .of_below (Below.refl _ _) (HM3.out.2.2.bound)
    have hog3 := HQ2.out.1.g3 HM3.out.2.2
    have HW := hide (And.intro hwa hk)
    clear hwa hk
    obtain ⟨hw1, n0, n1, n2, n3⟩ := HW.out.1
    have HBT := hide (between_any c _ _ (FP es fs) (ws id).since d.time w3 ((HQ2.out.1.cal.keptR HM3.out.2.2 (by decide)).unroP) HFEW.out (ff_eq _ _) n0 n1 dt1)
    have hcm := cnt_mono (FP es fs) n1 n0
    have HW1 := hide hw1
    clear hw1
    obtain ⟨gn, hgn⟩ : ∃ gn, gn = cnt (FP es fs) d.time.toNat - cnt (FP es fs) (ws id).since.toNat := ⟨_, rfl⟩
    rw [← hgn] at HBT
    have hgb : 0 ≤ gn ∧ gn ≤ 100800 := by omega
    have HGN := hide hgn
    clear hcm hgn
    have hwt : IntKind.i64.wrap ((ws id).togo - gn) = (ws id).togo - gn := IntWalk.i64_in _ (by omega)
    go_wp2_with fail
    refine HBT.out.mono ?_
    rintro e w4 ⟨rfl, hb4⟩
    have M4 := HM3.out.1.on hb4
    have k4 : KeptS own3 own3 (fun x => x = 3) w3 w4 := .of_below hb4 (HM3.out.2.2.bound)
    have v1 : w4.cell? ⟨g, id * 7 + 1, none⟩ = some (.int .i64 (ws id).togo) := WM.cell M4 id 1 (by omega) (by omega)
    have v6 : w4.cell? ⟨g, id * 7 + 6, none⟩ = some (.bool (ws id).held) := WM.cell M4 id 6 (by omega) (by omega)
    have f1 := M4.frz (id * 7 + 1)
    have f6 := M4.frz (id * 7 + 6)
    have HM4 := hide (And.intro M4 k4)
    clear M4 k4 hb4 z0 z1 z4 z6 HBT
    go_wp2_with fail
    have e0 : WM w4 g (upd ws id (ws id)) := by rw [upd_self]; exact HM4.out.1
    have e1 := e0.put 1 (by omega) ⟨(ws id).since, (ws id).togo - gn, (ws id).stage, (ws id).level, (ws id).there, (ws id).on, (ws id).held⟩ (v := .int .i64 ((ws id).togo - gn)) rfl (fun c' h1 h2 => by rcases c' with _ | _ | _ | _ | _ | _ | _ | c' <;> first | rfl | omega)
    have e2 := e1.put 6 (by omega) ⟨(ws id).since, (ws id).togo - gn, (ws id).stage, (ws id).level, (ws id).there, (ws id).on, true⟩ (v := .bool true) rfl (fun c' h1 h2 => by rcases c' with _ | _ | _ | _ | _ | _ | _ | c' <;> first | rfl | omega)
    refine HE.out _ _ _ _ _ _ _ _ _ _ _ _ _ _ _ _ _ _ _ _ _ _ _ _ _ _ _ _ _ _ _ _ _ _ _ _ _ _ _ _ _ _ _ _ _ _ _ _ _ _ _ _ _ _ _ _ _ _ _ _ _ _ _ _ _ _ _ _ _ _ _ _ _ _ _ _ _ _ _ _ _ _ _ _ _ _ _ _ _ _ _ _ _ _ _ _ _ _ _ _ _ _ _ _ _ _ _ _ _ _ _ _ _ _ _ _ _ _ _ _ _ _ _ _ _ _ _ _ _ _ _ _ _ _ _ _ _ _ _ _ _ _ _ _ _ _ _ _ _ _ _ _ _ _ _ _ _ _ _ _ _ _ _ _ _ _ _ _ _ _ _ _ _ _ _ _ _ _ _ _ _ _ _ _ _ _ _ _ _ _ _ _ _ _ _ _ _ _ _ _ _ _ _ _ _ _ _ _ _ _ _ _ _ _ _ _ _ _ _ _ _ _ _ _ _ _ _ _ _ _ _ _ _ _ _ _ _ _ _ _ _ own3 d' (upd ws id (holdW (FP es fs) (ws id) d.time)) _ ?_ ?_ ?_ ?_
    · exact by rw [hm1]
    · exact by rw [hm2]
    · exact by go_num
    · exact HQ2.out.1.both HM3.out.2.1 HM3.out.2.2 (HOK.out.1.mono (by omega)) HOK.out.2 (by omega) ((HM4.out.2.setG (.inl hog3)).setG (.inl hog3)) (by unfold holdW; rw [← HGN.out]; exact e2) (by rw [hm3]; exact HW1.out)
  · have hne : ¬ er = 0 := fun e => hgo (HA1.out.1 e)
    have hbe : (er == 0) = false := by simpa using hne
    have hdd := HAA.out.2 hne
    subst hdd
    have hx : (ws id).there = false ∨ ((ws id).there = true ∧ (ws id).held = true) := by
      revert hgo
      cases (ws id).there <;> cases (ws id).held <;> simp
    clear hgo hne
    have HK3 := hide (HQ2.out.1.call HM3.out.2.1 HM3.out.2.2 (HOK.out.1.mono (show 80 * (i : Int) ≤ 80 * ((i + 1 : Nat) : Int) by omega)) HOK.out.2 HQ2.out.1.wa (show d'.made ≤ ((i + 1 : Nat) : Int) by omega))
    rcases hx with t1 | ⟨t1, t2⟩
    · rw [t1] at z4
      go_wp2_with fail
      refine HE.out _ _ _ _ _ _ _ _ _ _ _ _ _ _ _ _ _ _ _ _ _ _ _ _ _ _ _ _ _ _ _ _ _ _ _ _ _ _ _ _ _ _ _ _ _ _ _ _ _ _ _ _ _ _ _ _ _ _ _ _ _ _ _ _ _ _ _ _ _ _ _ _ _ _ _ _ _ _ _ _ _ _ _ _ _ _ _ _ _ _ _ _ _ _ _ _ _ _ _ _ _ _ _ _ _ _ _ _ _ _ _ _ _ _ _ _ _ _ _ _ _ _ _ _ _ _ _ _ _ _ _ _ _ _ _ _ _ _ _ _ _ _ _ _ _ _ _ _ _ _ _ _ _ _ _ _ _ _ _ _ _ _ _ _ _ _ _ _ _ _ _ _ _ _ _ _ _ _ _ _ _ _ _ _ _ _ _ _ _ _ _ _ _ _ _ _ _ _ _ _ _ _ _ _ _ _ _ _ _ _ _ _ _ _ _ _ _ _ _ _ _ _ _ _ _ _ _ _ _ _ _ _ _ _ _ _ _ _ _ _ _ own3 d' (ws) _ ?_ ?_ ?_ ?_
      · exact rfl
      · exact rfl
      · exact by go_num
      · exact HK3.out
    · rw [t1] at z4
      rw [t2] at z6
      go_wp2_with fail
      refine HE.out _ _ _ _ _ _ _ _ _ _ _ _ _ _ _ _ _ _ _ _ _ _ _ _ _ _ _ _ _ _ _ _ _ _ _ _ _ _ _ _ _ _ _ _ _ _ _ _ _ _ _ _ _ _ _ _ _ _ _ _ _ _ _ _ _ _ _ _ _ _ _ _ _ _ _ _ _ _ _ _ _ _ _ _ _ _ _ _ _ _ _ _ _ _ _ _ _ _ _ _ _ _ _ _ _ _ _ _ _ _ _ _ _ _ _ _ _ _ _ _ _ _ _ _ _ _ _ _ _ _ _ _ _ _ _ _ _ _ _ _ _ _ _ _ _ _ _ _ _ _ _ _ _ _ _ _ _ _ _ _ _ _ _ _ _ _ _ _ _ _ _ _ _ _ _ _ _ _ _ _ _ _ _ _ _ _ _ _ _ _ _ _ _ _ _ _ _ _ _ _ _ _ _ _ _ _ _ _ _ _ _ _ _ _ _ _ _ _ _ _ _ _ _ _ _ _ _ _ _ _ _ _ _ _ _ _ _ _ _ _ _ own3 d' (ws) _ ?_ ?_ ?_ ?_
      · exact rfl
      · exact rfl
      · exact by go_num
      · exact HK3.out
end Go.Proofs.YtcnmbldikjljeaaGreatDoor
