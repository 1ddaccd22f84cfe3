import Derived.Test.YtcnmbldikjljeaaGreatDoorT28
import Derived.Deep.CutRange
namespace Go.Proofs.YtcnmbldikjljeaaGreatDoor
open Go.RowKit

set_option maxRecDepth 1000000 in
set_option maxHeartbeats 16000000 in
theorem t_move {W wr : World} {own : Nat → Nat} {p c g : Nat} {es : List Ent} {fs : List Int} {ps : List (List (Int × Int))} {oa : Option Addr} {oc : Nat} {vs : Nat → Value × Value} {d : Dk} {ws : Nat → Wt} {ms : List Mv} {ma : Option Addr} {mc : Nat} {i : Nat} (HMV : MV W (.slice ma ms.length mc) ms) (hml : ms.length ≤ 9223372036854775807) (hlt : i < ms.length) (h150 : i < 150) (Q : TY W wr own p c g es fs ps (.slice oa (nP ps) oc) vs d ws (80 * i) i) (hkind : pk ms[i].1 10 = 2) (K : Act → World → Prop) (Q' : Exit → Act → World → Prop)
    {c0 c1 c3 c4 c5 c6 c14 c15 c16 c17 c18 c19 c20 c21 c22 c23 c24 c25 c26 c27 c28 c29 c30 c31 c32 c33 c34 c35 c36 c37 c38 c39 c40 c41 c42 c43 c44 c45 c46 c47 c48 c49 c50 c51 c52 c53 c54 c55 c56 c57 c58 c59 c60 c61 c62 c63 c64 c65 c66 c67 c68 c69 c70 c71 c72 c73 c74 c75 c76 c77 c78 c79 c80 c81 c82 c83 c84 c85 c86 c87 c88 c89 c90 c91 c92 c93 c94 c95 c96 c97 c98 c99 c100 c101 c102 c103 c104 c105 c106 c107 c108 c109 c110 c111 c112 c113 c114 c115 c116 c117 c118 c119 c120 c121 c122 c123 c124 c125 c126 c127 c128 c129 c130 c131 c132 c133 c134 c135 c136 c137 c138 c139 c140 c141 c142 c143 c144 c145 c146 c147 c148 c149 c150 c151 c152 c153 c154 c155 c156 c157 c158 c159 c160 c161 c162 c163 c164 c165 c166 c167 c168 c169 c170 c171 c172 c173 c174 c175 c176 c177 c178 c179 c180 c181 c182 c183 c184 c185 c186 c187 c188 c189 c190 c191 c192 c193 c194 c195 c196 c197 c198 c199 c200 c201 c202 c203 c204 c205 c206 c207 c208 c209 c210 c211 c212 c213 c214 c215 c216 c217 c218 c219 c220 c221 c222 c223 c224 c225 c226 c227 c228 c229 c230 c231 c232 c233 c234 c235 c236 c237 c238 c239 c240 c241 c242 c243 c244 c245 c246 c247 c248 c249 c250 c251 c252 c253 c254 c255 c256 c257 c258 c259 c260 : Value}
    (hend : ∀ (u6 u14 u15 u16 u17 u18 u19 u20 u21 u22 u23 u24 u25 u26 u27 u28 u29 u30 u31 u32 u43 u44 u45 u46 u47 u48 u49 u50 u51 u52 u53 u54 u55 u56 u57 u58 u59 u60 u61 u62 u63 u64 u65 u66 u67 u68 u69 u70 u71 u72 u73 u74 u75 u76 u77 u78 u79 u80 u81 u82 u83 u84 u85 u86 u87 u88 u89 u90 u91 u92 u93 u94 u95 u96 u97 u98 u99 u100 u101 u102 u103 u104 u105 u106 u107 u108 u109 u110 u111 u112 u113 u114 u115 u116 u117 u118 u119 u120 u121 u122 u123 u124 u125 u126 u127 u128 u129 u130 u131 u132 u133 u134 u135 u136 u137 u138 u139 u140 u141 u142 u143 u144 u145 u146 u147 u148 u149 u150 u151 u152 u153 u154 u155 u156 u157 u158 u159 u160 u161 u162 u163 u164 u165 u166 u167 u168 u169 u170 u171 u172 u173 u174 u175 u176 u177 u178 u179 u180 u181 u182 u183 u184 u185 u186 u187 u188 u189 u190 u191 u192 u193 u194 u195 u196 u197 u198 u199 u200 u201 u202 u203 u204 u205 u206 u207 u208 u209 u210 u211 u212 u213 u214 u215 u216 u217 u218 u219 u220 u221 u222 u223 u224 u225 u226 u227 u228 u229 u230 u231 u232 u233 u234 u235 u236 u237 u238 u239 u240 u241 u242 u243 u244 u245 u246 u247 u248 u249 u250 u251 u252 u253 u254 u255 u256 u257 u258 u259 u260 v11 v12 v13 : Value) (own' : Nat → Nat) (d' : Dk) (ws' : Nat → Wt) (wz : World), v11 = .int .i64 d'.made → v12 = .int .i64 d'.told → v13 = .int .i64 ((i + 1 : Nat) : Int) → TY W wz own' p c g es fs ps (.slice oa (nP ps) oc) vs d' ws' (80 * ((i + 1 : Nat) : Int)) ((i + 1 : Nat) : Int) → K ⟨List.toArray (c0 :: c1 :: .slice ma ms.length mc :: c3 :: c4 :: c5 :: u6 :: P0 p :: P0 c :: .slice oa (nP ps) oc :: .slice (some ⟨g, 0, none⟩) 200 200 :: v11 :: v12 :: v13 :: u14 :: u15 :: u16 :: u17 :: u18 :: u19 :: u20 :: u21 :: u22 :: u23 :: u24 :: u25 :: u26 :: u27 :: u28 :: u29 :: u30 :: u31 :: u32 :: c33 :: c34 :: c35 :: c36 :: c37 :: c38 :: c39 :: c40 :: c41 :: c42 :: u43 :: u44 :: u45 :: u46 :: u47 :: u48 :: u49 :: u50 :: u51 :: u52 :: u53 :: u54 :: u55 :: u56 :: u57 :: u58 :: u59 :: u60 :: u61 :: u62 :: u63 :: u64 :: u65 :: u66 :: u67 :: u68 :: u69 :: u70 :: u71 :: u72 :: u73 :: u74 :: u75 :: u76 :: u77 :: u78 :: u79 :: u80 :: u81 :: u82 :: u83 :: u84 :: u85 :: u86 :: u87 :: u88 :: u89 :: u90 :: u91 :: u92 :: u93 :: u94 :: u95 :: u96 :: u97 :: u98 :: u99 :: u100 :: u101 :: u102 :: u103 :: u104 :: u105 :: u106 :: u107 :: u108 :: u109 :: u110 :: u111 :: u112 :: u113 :: u114 :: u115 :: u116 :: u117 :: u118 :: u119 :: u120 :: u121 :: u122 :: u123 :: u124 :: u125 :: u126 :: u127 :: u128 :: u129 :: u130 :: u131 :: u132 :: u133 :: u134 :: u135 :: u136 :: u137 :: u138 :: u139 :: u140 :: u141 :: u142 :: u143 :: u144 :: u145 :: u146 :: u147 :: u148 :: u149 :: u150 :: u151 :: u152 :: u153 :: u154 :: u155 :: u156 :: u157 :: u158 :: u159 :: u160 :: u161 :: u162 :: u163 :: u164 :: u165 :: u166 :: u167 :: u168 :: u169 :: u170 :: u171 :: u172 :: u173 :: u174 :: u175 :: u176 :: u177 :: u178 :: u179 :: u180 :: u181 :: u182 :: u183 :: u184 :: u185 :: u186 :: u187 :: u188 :: u189 :: u190 :: u191 :: u192 :: u193 :: u194 :: u195 :: u196 :: u197 :: u198 :: u199 :: u200 :: u201 :: u202 :: u203 :: u204 :: u205 :: u206 :: u207 :: u208 :: u209 :: u210 :: u211 :: u212 :: u213 :: u214 :: u215 :: u216 :: u217 :: u218 :: u219 :: u220 :: u221 :: u222 :: u223 :: u224 :: u225 :: u226 :: u227 :: u228 :: u229 :: u230 :: u231 :: u232 :: u233 :: u234 :: u235 :: u236 :: u237 :: u238 :: u239 :: u240 :: u241 :: u242 :: u243 :: u244 :: u245 :: u246 :: u247 :: u248 :: u249 :: u250 :: u251 :: u252 :: u253 :: u254 :: u255 :: u256 :: u257 :: u258 :: u259 :: u260 :: []), []⟩ wz) :
    Code.wp Tryz.prog ((Tryz.f7.body.bind firstLoop).getD .skip) (Exit.then K Q') ⟨List.toArray (c0 :: c1 :: .slice ma ms.length mc :: c3 :: c4 :: c5 :: c6 :: P0 p :: P0 c :: .slice oa (nP ps) oc :: .slice (some ⟨g, 0, none⟩) 200 200 :: .int .i64 d.made :: .int .i64 d.told :: .int .i64 i :: c14 :: c15 :: c16 :: c17 :: c18 :: c19 :: c20 :: c21 :: c22 :: c23 :: c24 :: c25 :: c26 :: c27 :: c28 :: c29 :: c30 :: c31 :: c32 :: c33 :: c34 :: c35 :: c36 :: c37 :: c38 :: c39 :: c40 :: c41 :: c42 :: c43 :: c44 :: c45 :: c46 :: c47 :: c48 :: c49 :: c50 :: c51 :: c52 :: c53 :: c54 :: c55 :: c56 :: c57 :: c58 :: c59 :: c60 :: c61 :: c62 :: c63 :: c64 :: c65 :: c66 :: c67 :: c68 :: c69 :: c70 :: c71 :: c72 :: c73 :: c74 :: c75 :: c76 :: c77 :: c78 :: c79 :: c80 :: c81 :: c82 :: c83 :: c84 :: c85 :: c86 :: c87 :: c88 :: c89 :: c90 :: c91 :: c92 :: c93 :: c94 :: c95 :: c96 :: c97 :: c98 :: c99 :: c100 :: c101 :: c102 :: c103 :: c104 :: c105 :: c106 :: c107 :: c108 :: c109 :: c110 :: c111 :: c112 :: c113 :: c114 :: c115 :: c116 :: c117 :: c118 :: c119 :: c120 :: c121 :: c122 :: c123 :: c124 :: c125 :: c126 :: c127 :: c128 :: c129 :: c130 :: c131 :: c132 :: c133 :: c134 :: c135 :: c136 :: c137 :: c138 :: c139 :: c140 :: c141 :: c142 :: c143 :: c144 :: c145 :: c146 :: c147 :: c148 :: c149 :: c150 :: c151 :: c152 :: c153 :: c154 :: c155 :: c156 :: c157 :: c158 :: c159 :: c160 :: c161 :: c162 :: c163 :: c164 :: c165 :: c166 :: c167 :: c168 :: c169 :: c170 :: c171 :: c172 :: c173 :: c174 :: c175 :: c176 :: c177 :: c178 :: c179 :: c180 :: c181 :: c182 :: c183 :: c184 :: c185 :: c186 :: c187 :: c188 :: c189 :: c190 :: c191 :: c192 :: c193 :: c194 :: c195 :: c196 :: c197 :: c198 :: c199 :: c200 :: c201 :: c202 :: c203 :: c204 :: c205 :: c206 :: c207 :: c208 :: c209 :: c210 :: c211 :: c212 :: c213 :: c214 :: c215 :: c216 :: c217 :: c218 :: c219 :: c220 :: c221 :: c222 :: c223 :: c224 :: c225 :: c226 :: c227 :: c228 :: c229 :: c230 :: c231 :: c232 :: c233 :: c234 :: c235 :: c236 :: c237 :: c238 :: c239 :: c240 :: c241 :: c242 :: c243 :: c244 :: c245 :: c246 :: c247 :: c248 :: c249 :: c250 :: c251 :: c252 :: c253 :: c254 :: c255 :: c256 :: c257 :: c258 :: c259 :: c260 :: []), []⟩ wr := by
  conv => arg 2; whnf
  have HE := hide hend
  have HA := hide (And.intro True.intro (And.intro True.intro HMV))
  have HST := hide (stgP_ok ps)
  have hn := nP_bd (ps := ps)
  clear hend HMV
  have hlt' : (i : Int) < ms.length := by omega
  have h150' : (i : Int) < 150 := by omega
  obtain ⟨mb, mo, mc2, hmf⟩ := HA.out.2.2.row.some (by omega) (by omega)
  simp only [Value.slice.injEq] at hmf
  obtain ⟨rfl, _, rfl⟩ := hmf
  obtain ⟨m0, m1, m2⟩ := (HA.out.2.2.on Q.kw.low).at i hlt
  have hr := HA.out.2.2.rng _ (List.getElem_mem hlt)
  generalize ms[i] = mi at *
  obtain ⟨mk, mA, mB⟩ := mi
  simp only at m0 m1 m2 hr hkind
  obtain ⟨hr0, hr1, hr2⟩ := hr
  have hbx : Below wr.heap.size wr (wr.alloc (Obj.cells #[.int .i64 mk, .int .i64 mA, .int .i64 mB] 41)) := (Below.refl _ _).alloc (Nat.le_refl _) _
  have x0 : (wr.alloc (Obj.cells #[.int .i64 mk, .int .i64 mA, .int .i64 mB] 41)).heap[wr.heap.size]? = some (.cells #[.int .i64 mk, .int .i64 mA, .int .i64 mB] 41 (0, 0)) := heap_alloc_new _ _
  have hxo : own wr.heap.size = 0 := Classical.byContradiction fun h => by have := Q.kw.lt _ h; omega
  have HQ := hide (And.intro (Q.below hbx) (And.intro x0 hxo))
  have HC := hide (prgI.now HQ.out.1.pk.psi (by decide) (HQ.out.1.pre (by omega)))
  have dm0 := Q.pk.ok.m0
  have dm1 := Q.md
  have dt0 := Q.pk.ok.t0
  have dt1 := Q.pk.ok.t1
  have dk0 := Q.pk.ok.k0
  have dk1 := Q.pk.ok.k1
  clear Q hbx x0 hxo
  go_wp2_with fail
  refine HC.out.mono ?_
  rintro e w2 ⟨rfl, own2, psi2, k2⟩
  have Q2 := HQ.out.1.call psi2 k2 HQ.out.1.pk.ok HQ.out.1.pk.rs HQ.out.1.wa HQ.out.1.md
  obtain ⟨x2, o2⟩ := k2.at HQ.out.2.1 (by rw [HQ.out.2.2]; decide)
  rw [HQ.out.2.2] at o2
  have hxl : wr.heap.size < w2.heap.size := (Array.getElem?_eq_some_iff.1 x2).1
  have y0 : w2.cell? ⟨wr.heap.size, 0, none⟩ = some (.int .i64 mk) := by simp [World.cell?, x2]
  have y1 : w2.cell? ⟨wr.heap.size, 1, none⟩ = some (.int .i64 mA) := by simp [World.cell?, x2]
  have y2 : w2.cell? ⟨wr.heap.size, 2, none⟩ = some (.int .i64 mB) := by simp [World.cell?, x2]
  have HQ2 := hide (And.intro Q2 (And.intro x2 o2))
  have HPA := hide (fun u => pick_any mA 12 u hr1.1 hr1.2 (by omega) (by omega))
  have HPK := hide (fun u => pick_any mk 10 u hr0.1 hr0.2 (by omega) (by omega))
  have pa0 := pk_lo mA 12 (by omega)
  have pa1 := pk_hi mA 12 (by omega)
  have pk0 := pk_lo mk 10 (by omega)
  have pk1 := pk_hi mk 10 (by omega)
  obtain ⟨id, hid⟩ : ∃ id : Nat, 1 + pk mA 12 = id := ⟨(1 + pk mA 12).toNat, by omega⟩
  have hid1 : id ≤ 12 := by omega
  have hwid : IntKind.i64.wrap (1 + pk mA 12) = id := by rw [IntWalk.i64_in _ (by omega)]; exact hid
  clear Q2 psi2 k2 HQ HC x2 o2 m0 m1 m2
  go_wp2_with fail
  refine (HPA.out _).mono ?_
  rintro e w' ⟨rfl, rfl⟩
  have hid200 : (id : Int) < 200 := by omega
  rw [hkind] at HPK
  clear hkind pk0 pk1
  have Q := HQ2.out.1
  have HPB := hide (fun u => pick_any mB (nP ps) u hr2.1 hr2.2 (by omega) (by omega))
  have sb0 := pk_lo mB (nP ps) (by omega)
  have sb1 := pk_hi mB (nP ps) (by omega)
  obtain ⟨si, hsi⟩ : ∃ si : Nat, pk mB (nP ps) = si := ⟨(pk mB (nP ps)).toNat, by omega⟩
  rw [hsi] at HPB sb0 sb1
  have hsn : si < nP ps := by omega
  clear hsi
  have HC := hide (prgI.move Q.pk.psi (by decide) (Q.pre (by omega)) id si)
  obtain ⟨A1, A2, A3⟩ := Q.wa.moves HST.out.1 Q.pk.psi.inv Q.pk.ok (next_all ps) (id := id) (stage := si) (by omega) (by rw [stgP_len]; omega)
  have hok := move_ok Q.pk.ok HST.out.1 id si
  have hrs := move_rest (F := FP es fs) Q.pk.rs id si
  have hmd : (moveC (FP es fs) (stgP ps) d id si).1.made = d.made ∧ (moveC (FP es fs) (stgP ps) d id si).1.told = d.told ∧ (moveC (FP es fs) (stgP ps) d id si).1.time = d.time := by
    unfold moveC
    split
    · exact ⟨rfl, rfl, rfl⟩
    · split
      · exact ⟨rfl, rfl, rfl⟩
      · first | exact ⟨rfl, rfl, rfl⟩ | (split <;> exact ⟨rfl, rfl, rfl⟩)
  generalize moveC (FP es fs) (stgP ps) d id si = X at *
  obtain ⟨d', er⟩ := X
  simp only at A1 A2 A3 hok hrs hmd HC
  obtain ⟨hm1, hm2, hm3⟩ := hmd
  have HAA := hide (And.intro A2 A3)
  have HOK := hide (And.intro hok hrs)
  have HA1 := hide A1
  clear Q A1 A2 A3 hok hrs
  go_wp2_with fail
  refine (HPK.out _).mono ?_
  rintro e w' ⟨rfl, rfl⟩
  go_wp2_with fail
  refine (HPB.out _).mono ?_
  rintro e w' ⟨rfl, rfl⟩
  go_wp2_with fail
  refine HC.out.mono ?_
  rintro e w3 ⟨rfl, own3, psi3, k3⟩
  have og2 := HQ2.out.1.og
  have M3 := HQ2.out.1.wm.kept k3 (by rw [og2]; decide)
  have z4 : w3.cell? ⟨g, id * 7 + 4, none⟩ = some (.bool (ws id).there) := M3.cell id 4 (by omega) (by omega)
  have z0 : w3.cell? ⟨g, id * 7, none⟩ = some (.int .i64 (ws id).since) := M3.cell id 0 (by omega) (by omega)
  have z1 : w3.cell? ⟨g, id * 7 + 1, none⟩ = some (.int .i64 (ws id).togo) := M3.cell id 1 (by omega) (by omega)
  have z6 : w3.cell? ⟨g, id * 7 + 6, none⟩ = some (.bool (ws id).held) := M3.cell id 6 (by omega) (by omega)
  have f0 := M3.frz (id * 7)
  have f1 := M3.frz (id * 7 + 1)
  have f6 := M3.frz (id * 7 + 6)
  have HM3 := hide (And.intro M3 (And.intro psi3 k3))
  clear M3 psi3 k3 HC
  by_cases hgo : (ws id).there = true ∧ (ws id).held = false
  · have her := HA1.out.2 hgo
    subst her
    rw [hgo.1] at z4
    rw [hgo.2] at z6
    have hwa := HAA.out.1 rfl
    have hk : KeptS own3 own3 (fun x => x = 3) w3 w3 := .of_below (Below.refl _ _) (HM3.out.2.2.bound)
    have hog3 := HQ2.out.1.g3 HM3.out.2.2
    have HW := hide (And.intro hwa hk)
    clear hwa hk
    have HE := hide (enters_any HM3.out.1 hog3 HM3.out.2.2.bound (HQ2.out.1.stg.keptR HM3.out.2.2 (by decide)) (show id < 200 by omega) (show si < (stgP ps).length by rw [stgP_len]; exact hsn) HST.out.2 HST.out.1 d.time)
    go_wp2_with fail
    refine HE.out.mono ?_
    rintro e w4 ⟨rfl, M4, k4⟩
    have HM4 := hide (And.intro M4 k4)
    clear M4 k4 HE z0 z1 z4 z6
    go_wp2_with fail
    refine HE.out _ _ _ _ _ _ _ _ _ _ _ _ _ _ _ _ _ _ _ _ _ _ _ _ _ _ _ _ _ _ _ _ _ _ _ _ _ _ _ _ _ _ _ _ _ _ _ _ _ _ _ _ _ _ _ _ _ _ _ _ _ _ _ _ _ _ _ _ _ _ _ _ _ _ _ _ _ _ _ _ _ _ _ _ _ _ _ _ _ _ _ _ _ _ _ _ _ _ _ _ _ _ _ _ _ _ _ _ _ _ _ _ _ _ _ _ _ _ _ _ _ _ _ _ _ _ _ _ _ _ _ _ _ _ _ _ _ _ _ _ _ _ _ _ _ _ _ _ _ _ _ _ _ _ _ _ _ _ _ _ _ _ _ _ _ _ _ _ _ _ _ _ _ _ _ _ _ _ _ _ _ _ _ _ _ _ _ _ _ _ _ _ _ _ _ _ _ _ _ _ _ _ _ _ _ _ _ _ _ _ _ _ _ _ _ _ _ _ _ _ _ _ _ _ _ _ _ _ _ _ _ _ _ _ _ _ _ _ _ _ _ own3 d' (upd ws id (entersW (stgP ps) (ws id) si d.time)) _ ?_ ?_ ?_ ?_
    · exact by rw [hm1]
    · exact by rw [hm2]
    · exact by go_num
    · exact HQ2.out.1.both HM3.out.2.1 HM3.out.2.2 (HOK.out.1.mono (by omega)) HOK.out.2 (by omega) HM4.out.2 HM4.out.1 (by rw [hm3]; exact HW.out.1)
  · have hne : ¬ er = 0 := fun e => hgo (HA1.out.1 e)
    have hbe : (er == 0) = false := by simpa using hne
    have hdd := HAA.out.2 hne
    subst hdd
    have hx : (ws id).there = false ∨ ((ws id).there = true ∧ (ws id).held = true) := by
      revert hgo
      cases (ws id).there <;> cases (ws id).held <;> simp
    clear hgo hne
    have HK3 := hide (HQ2.out.1.call HM3.out.2.1 HM3.out.2.2 (HOK.out.1.mono (show 80 * (i : Int) ≤ 80 * ((i + 1 : Nat) : Int) by omega)) HOK.out.2 HQ2.out.1.wa (show d'.made ≤ ((i + 1 : Nat) : Int) by omega))
    rcases hx with t1 | ⟨t1, t2⟩
    · rw [t1] at z4
      go_wp2_with fail
      refine HE.out _ _ _ _ _ _ _ _ _ _ _ _ _ _ _ _ _ _ _ _ _ _ _ _ _ _ _ _ _ _ _ _ _ _ _ _ _ _ _ _ _ _ _ _ _ _ _ _ _ _ _ _ _ _ _ _ _ _ _ _ _ _ _ _ _ _ _ _ _ _ _ _ _ _ _ _ _ _ _ _ _ _ _ _ _ _ _ _ _ _ _ _ _ _ _ _ _ _ _ _ _ _ _ _ _ _ _ _ _ _ _ _ _ _ _ _ _ _ _ _ _ _ _ _ _ _ _ _ _ _ _ _ _ _ _ _ _ _ _ _ _ _ _ _ _ _ _ _ _ _ _ _ _ _ _ _ _ _ _ _ _ _ _ _ _ _ _ _ _ _ _ _ _ _ _ _ _ _ _ _ _ _ _ _ _ _ _ _ _ _ _ _ _ _ _ _ _ _ _ _ _ _ _ _ _ _ _ _ _ _ _ _ _ _ _ _ _ _ _ _ _ _ _ _ _ _ _ _ _ _ _ _ _ _ _ _ _ _ _ _ _ own3 d' (ws) _ ?_ ?_ ?_ ?_
      · exact rfl
      · exact rfl
      · exact by go_num
      · exact HK3.out
    · rw [t1] at z4
      rw [t2] at z6
      go_wp2_with fail
      refine HE.out _ _ _ _ _ _ _ _ _ _ _ _ _ _ _ _ _ _ _ _ _ _ _ _ _ _ _ _ _ _ _ _ _ _ _ _ _ _ _ _ _ _ _ _ _ _ _ _ _ _ _ _ _ _ _ _ _ _ _ _ _ _ _ _ _ _ _ _ _ _ _ _ _ _ _ _ _ _ _ _ _ _ _ _ _ _ _ _ _ _ _ _ _ _ _ _ _ _ _ _ _ _ _ _ _ _ _ _ _ _ _ _ _ _ _ _ _ _ _ _ _ _ _ _ _ _ _ _ _ _ _ _ _ _ _ _ _ _ _ _ _ _ _ _ _ _ _ _ _ _ _ _ _ _ _ _ _ _ _ _ _ _ _ _ _ _ _ _ _ _ _ _ _ _ _ _ _ _ _ _ _ _ _ _ _ _ _ _ _ _ _ _ _ _ _ _ _ _ _ _ _ _ _ _ _ _ _ _ _ _ _ _ _ _ _ _ _ _ _ _ _ _ _ _ _ _ _ _ _ _ _ _ _ _ _ _ _ _ _ _ _ own3 d' (ws) _ ?_ ?_ ?_ ?_
      · exact rfl
      · exact rfl
      · exact by go_num
      · exact HK3.out
end Go.Proofs.YtcnmbldikjljeaaGreatDoor
namespace Go.Proofs.YtcnmbldikjljeaaGreatDoor
open Go.RowKit

set_option maxRecDepth 1000000 in
set_option maxHeartbeats 16000000 in
theorem t_open {W wr : World} {own : Nat → Nat} {p c g : Nat} {es : List Ent} {fs : List Int} {ps : List (List (Int × Int))} {oa : Option Addr} {oc : Nat} {vs : Nat → Value × Value} {d : Dk} {ws : Nat → Wt} {ms : List Mv} {ma : Option Addr} {mc : Nat} {i : Nat} (HMV : MV W (.slice ma ms.length mc) ms) (hml : ms.length ≤ 9223372036854775807) (hlt : i < ms.length) (h150 : i < 150) (Q : TY W wr own p c g es fs ps (.slice oa (nP ps) oc) vs d ws (80 * i) i) (hkind : pk ms[i].1 10 = 0 ∨ pk ms[i].1 10 = 1) (K : Act → World → Prop) (Q' : Exit → Act → World → Prop)
    {c0 c1 c3 c4 c5 c6 c14 c15 c16 c17 c18 c19 c20 c21 c22 c23 c24 c25 c26 c27 c28 c29 c30 c31 c32 c33 c34 c35 c36 c37 c38 c39 c40 c41 c42 c43 c44 c45 c46 c47 c48 c49 c50 c51 c52 c53 c54 c55 c56 c57 c58 c59 c60 c61 c62 c63 c64 c65 c66 c67 c68 c69 c70 c71 c72 c73 c74 c75 c76 c77 c78 c79 c80 c81 c82 c83 c84 c85 c86 c87 c88 c89 c90 c91 c92 c93 c94 c95 c96 c97 c98 c99 c100 c101 c102 c103 c104 c105 c106 c107 c108 c109 c110 c111 c112 c113 c114 c115 c116 c117 c118 c119 c120 c121 c122 c123 c124 c125 c126 c127 c128 c129 c130 c131 c132 c133 c134 c135 c136 c137 c138 c139 c140 c141 c142 c143 c144 c145 c146 c147 c148 c149 c150 c151 c152 c153 c154 c155 c156 c157 c158 c159 c160 c161 c162 c163 c164 c165 c166 c167 c168 c169 c170 c171 c172 c173 c174 c175 c176 c177 c178 c179 c180 c181 c182 c183 c184 c185 c186 c187 c188 c189 c190 c191 c192 c193 c194 c195 c196 c197 c198 c199 c200 c201 c202 c203 c204 c205 c206 c207 c208 c209 c210 c211 c212 c213 c214 c215 c216 c217 c218 c219 c220 c221 c222 c223 c224 c225 c226 c227 c228 c229 c230 c231 c232 c233 c234 c235 c236 c237 c238 c239 c240 c241 c242 c243 c244 c245 c246 c247 c248 c249 c250 c251 c252 c253 c254 c255 c256 c257 c258 c259 c260 : Value}
    (hend : ∀ (u6 u14 u15 u16 u17 u18 u19 u20 u21 u22 u23 u24 u25 u26 u27 u28 u29 u30 u31 u32 u43 u44 u45 u46 u47 u48 u49 u50 u51 u52 u53 u54 u55 u56 u57 u58 u59 u60 u61 u62 u63 u64 u65 u66 u67 u68 u69 u70 u71 u72 u73 u74 u75 u76 u77 u78 u79 u80 u81 u82 u83 u84 u85 u86 u87 u88 u89 u90 u91 u92 u93 u94 u95 u96 u97 u98 u99 u100 u101 u102 u103 u104 u105 u106 u107 u108 u109 u110 u111 u112 u113 u114 u115 u116 u117 u118 u119 u120 u121 u122 u123 u124 u125 u126 u127 u128 u129 u130 u131 u132 u133 u134 u135 u136 u137 u138 u139 u140 u141 u142 u143 u144 u145 u146 u147 u148 u149 u150 u151 u152 u153 u154 u155 u156 u157 u158 u159 u160 u161 u162 u163 u164 u165 u166 u167 u168 u169 u170 u171 u172 u173 u174 u175 u176 u177 u178 u179 u180 u181 u182 u183 u184 u185 u186 u187 u188 u189 u190 u191 u192 u193 u194 u195 u196 u197 u198 u199 u200 u201 u202 u203 u204 u205 u206 u207 u208 u209 u210 u211 u212 u213 u214 u215 u216 u217 u218 u219 u220 u221 u222 u223 u224 u225 u226 u227 u228 u229 u230 u231 u232 u233 u234 u235 u236 u237 u238 u239 u240 u241 u242 u243 u244 u245 u246 u247 u248 u249 u250 u251 u252 u253 u254 u255 u256 u257 u258 u259 u260 v11 v12 v13 : Value) (own' : Nat → Nat) (d' : Dk) (ws' : Nat → Wt) (wz : World), v11 = .int .i64 d'.made → v12 = .int .i64 d'.told → v13 = .int .i64 ((i + 1 : Nat) : Int) → TY W wz own' p c g es fs ps (.slice oa (nP ps) oc) vs d' ws' (80 * ((i + 1 : Nat) : Int)) ((i + 1 : Nat) : Int) → K ⟨List.toArray (c0 :: c1 :: .slice ma ms.length mc :: c3 :: c4 :: c5 :: u6 :: P0 p :: P0 c :: .slice oa (nP ps) oc :: .slice (some ⟨g, 0, none⟩) 200 200 :: v11 :: v12 :: v13 :: u14 :: u15 :: u16 :: u17 :: u18 :: u19 :: u20 :: u21 :: u22 :: u23 :: u24 :: u25 :: u26 :: u27 :: u28 :: u29 :: u30 :: u31 :: u32 :: c33 :: c34 :: c35 :: c36 :: c37 :: c38 :: c39 :: c40 :: c41 :: c42 :: u43 :: u44 :: u45 :: u46 :: u47 :: u48 :: u49 :: u50 :: u51 :: u52 :: u53 :: u54 :: u55 :: u56 :: u57 :: u58 :: u59 :: u60 :: u61 :: u62 :: u63 :: u64 :: u65 :: u66 :: u67 :: u68 :: u69 :: u70 :: u71 :: u72 :: u73 :: u74 :: u75 :: u76 :: u77 :: u78 :: u79 :: u80 :: u81 :: u82 :: u83 :: u84 :: u85 :: u86 :: u87 :: u88 :: u89 :: u90 :: u91 :: u92 :: u93 :: u94 :: u95 :: u96 :: u97 :: u98 :: u99 :: u100 :: u101 :: u102 :: u103 :: u104 :: u105 :: u106 :: u107 :: u108 :: u109 :: u110 :: u111 :: u112 :: u113 :: u114 :: u115 :: u116 :: u117 :: u118 :: u119 :: u120 :: u121 :: u122 :: u123 :: u124 :: u125 :: u126 :: u127 :: u128 :: u129 :: u130 :: u131 :: u132 :: u133 :: u134 :: u135 :: u136 :: u137 :: u138 :: u139 :: u140 :: u141 :: u142 :: u143 :: u144 :: u145 :: u146 :: u147 :: u148 :: u149 :: u150 :: u151 :: u152 :: u153 :: u154 :: u155 :: u156 :: u157 :: u158 :: u159 :: u160 :: u161 :: u162 :: u163 :: u164 :: u165 :: u166 :: u167 :: u168 :: u169 :: u170 :: u171 :: u172 :: u173 :: u174 :: u175 :: u176 :: u177 :: u178 :: u179 :: u180 :: u181 :: u182 :: u183 :: u184 :: u185 :: u186 :: u187 :: u188 :: u189 :: u190 :: u191 :: u192 :: u193 :: u194 :: u195 :: u196 :: u197 :: u198 :: u199 :: u200 :: u201 :: u202 :: u203 :: u204 :: u205 :: u206 :: u207 :: u208 :: u209 :: u210 :: u211 :: u212 :: u213 :: u214 :: u215 :: u216 :: u217 :: u218 :: u219 :: u220 :: u221 :: u222 :: u223 :: u224 :: u225 :: u226 :: u227 :: u228 :: u229 :: u230 :: u231 :: u232 :: u233 :: u234 :: u235 :: u236 :: u237 :: u238 :: u239 :: u240 :: u241 :: u242 :: u243 :: u244 :: u245 :: u246 :: u247 :: u248 :: u249 :: u250 :: u251 :: u252 :: u253 :: u254 :: u255 :: u256 :: u257 :: u258 :: u259 :: u260 :: []), []⟩ wz) :
    Code.wp Tryz.prog ((Tryz.f7.body.bind firstLoop).getD .skip) (Exit.then K Q') ⟨List.toArray (c0 :: c1 :: .slice ma ms.length mc :: c3 :: c4 :: c5 :: c6 :: P0 p :: P0 c :: .slice oa (nP ps) oc :: .slice (some ⟨g, 0, none⟩) 200 200 :: .int .i64 d.made :: .int .i64 d.told :: .int .i64 i :: c14 :: c15 :: c16 :: c17 :: c18 :: c19 :: c20 :: c21 :: c22 :: c23 :: c24 :: c25 :: c26 :: c27 :: c28 :: c29 :: c30 :: c31 :: c32 :: c33 :: c34 :: c35 :: c36 :: c37 :: c38 :: c39 :: c40 :: c41 :: c42 :: c43 :: c44 :: c45 :: c46 :: c47 :: c48 :: c49 :: c50 :: c51 :: c52 :: c53 :: c54 :: c55 :: c56 :: c57 :: c58 :: c59 :: c60 :: c61 :: c62 :: c63 :: c64 :: c65 :: c66 :: c67 :: c68 :: c69 :: c70 :: c71 :: c72 :: c73 :: c74 :: c75 :: c76 :: c77 :: c78 :: c79 :: c80 :: c81 :: c82 :: c83 :: c84 :: c85 :: c86 :: c87 :: c88 :: c89 :: c90 :: c91 :: c92 :: c93 :: c94 :: c95 :: c96 :: c97 :: c98 :: c99 :: c100 :: c101 :: c102 :: c103 :: c104 :: c105 :: c106 :: c107 :: c108 :: c109 :: c110 :: c111 :: c112 :: c113 :: c114 :: c115 :: c116 :: c117 :: c118 :: c119 :: c120 :: c121 :: c122 :: c123 :: c124 :: c125 :: c126 :: c127 :: c128 :: c129 :: c130 :: c131 :: c132 :: c133 :: c134 :: c135 :: c136 :: c137 :: c138 :: c139 :: c140 :: c141 :: c142 :: c143 :: c144 :: c145 :: c146 :: c147 :: c148 :: c149 :: c150 :: c151 :: c152 :: c153 :: c154 :: c155 :: c156 :: c157 :: c158 :: c159 :: c160 :: c161 :: c162 :: c163 :: c164 :: c165 :: c166 :: c167 :: c168 :: c169 :: c170 :: c171 :: c172 :: c173 :: c174 :: c175 :: c176 :: c177 :: c178 :: c179 :: c180 :: c181 :: c182 :: c183 :: c184 :: c185 :: c186 :: c187 :: c188 :: c189 :: c190 :: c191 :: c192 :: c193 :: c194 :: c195 :: c196 :: c197 :: c198 :: c199 :: c200 :: c201 :: c202 :: c203 :: c204 :: c205 :: c206 :: c207 :: c208 :: c209 :: c210 :: c211 :: c212 :: c213 :: c214 :: c215 :: c216 :: c217 :: c218 :: c219 :: c220 :: c221 :: c222 :: c223 :: c224 :: c225 :: c226 :: c227 :: c228 :: c229 :: c230 :: c231 :: c232 :: c233 :: c234 :: c235 :: c236 :: c237 :: c238 :: c239 :: c240 :: c241 :: c242 :: c243 :: c244 :: c245 :: c246 :: c247 :: c248 :: c249 :: c250 :: c251 :: c252 :: c253 :: c254 :: c255 :: c256 :: c257 :: c258 :: c259 :: c260 :: []), []⟩ wr := by
  conv => arg 2; whnf
  have HE := hide hend
  have HA := hide (And.intro True.intro (And.intro True.intro HMV))
  have HST := hide (stgP_ok ps)
  have hn := nP_bd (ps := ps)
  clear hend HMV
  have hlt' : (i : Int) < ms.length := by omega
  have h150' : (i : Int) < 150 := by omega
  obtain ⟨mb, mo, mc2, hmf⟩ := HA.out.2.2.row.some (by omega) (by omega)
  simp only [Value.slice.injEq] at hmf
  obtain ⟨rfl, _, rfl⟩ := hmf
  obtain ⟨m0, m1, m2⟩ := (HA.out.2.2.on Q.kw.low).at i hlt
  have hr := HA.out.2.2.rng _ (List.getElem_mem hlt)
  generalize ms[i] = mi at *
  obtain ⟨mk, mA, mB⟩ := mi
  simp only at m0 m1 m2 hr hkind
  obtain ⟨hr0, hr1, hr2⟩ := hr
  have hbx : Below wr.heap.size wr (wr.alloc (Obj.cells #[.int .i64 mk, .int .i64 mA, .int .i64 mB] 41)) := (Below.refl _ _).alloc (Nat.le_refl _) _
  have x0 : (wr.alloc (Obj.cells #[.int .i64 mk, .int .i64 mA, .int .i64 mB] 41)).heap[wr.heap.size]? = some (.cells #[.int .i64 mk, .int .i64 mA, .int .i64 mB] 41 (0, 0)) := heap_alloc_new _ _
  have hxo : own wr.heap.size = 0 := Classical.byContradiction fun h => by have := Q.kw.lt _ h; omega
  have HQ := hide (And.intro (Q.below hbx) (And.intro x0 hxo))
  have HC := hide (prgI.now HQ.out.1.pk.psi (by decide) (HQ.out.1.pre (by omega)))
  have dm0 := Q.pk.ok.m0
  have dm1 := Q.md
  have dt0 := Q.pk.ok.t0
  have dt1 := Q.pk.ok.t1
  have dk0 := Q.pk.ok.k0
  have dk1 := Q.pk.ok.k1
  clear Q hbx x0 hxo
  go_wp2_with fail
  refine HC.out.mono ?_
  rintro e w2 ⟨rfl, own2, psi2, k2⟩
  have Q2 := HQ.out.1.call psi2 k2 HQ.out.1.pk.ok HQ.out.1.pk.rs HQ.out.1.wa HQ.out.1.md
  obtain ⟨x2, o2⟩ := k2.at HQ.out.2.1 (by rw [HQ.out.2.2]; decide)
  rw [HQ.out.2.2] at o2
  have hxl : wr.heap.size < w2.heap.size := (Array.getElem?_eq_some_iff.1 x2).1
  have y0 : w2.cell? ⟨wr.heap.size, 0, none⟩ = some (.int .i64 mk) := by simp [World.cell?, x2]
  have y1 : w2.cell? ⟨wr.heap.size, 1, none⟩ = some (.int .i64 mA) := by simp [World.cell?, x2]
  have y2 : w2.cell? ⟨wr.heap.size, 2, none⟩ = some (.int .i64 mB) := by simp [World.cell?, x2]
  have HQ2 := hide (And.intro Q2 (And.intro x2 o2))
  have HPA := hide (fun u => pick_any mA 12 u hr1.1 hr1.2 (by omega) (by omega))
  have HPK := hide (fun u => pick_any mk 10 u hr0.1 hr0.2 (by omega) (by omega))
  have pa0 := pk_lo mA 12 (by omega)
  have pa1 := pk_hi mA 12 (by omega)
  have pk0 := pk_lo mk 10 (by omega)
  have pk1 := pk_hi mk 10 (by omega)
  obtain ⟨id, hid⟩ : ∃ id : Nat, 1 + pk mA 12 = id := ⟨(1 + pk mA 12).toNat, by omega⟩
  have hid1 : id ≤ 12 := by omega
  have hwid : IntKind.i64.wrap (1 + pk mA 12) = id := by rw [IntWalk.i64_in _ (by omega)]; exact hid
  clear Q2 psi2 k2 HQ HC x2 o2 m0 m1 m2
  go_wp2_with fail
  refine (HPA.out _).mono ?_
  rintro e w' ⟨rfl, rfl⟩
  have hid200 : (id : Int) < 200 := by omega
  have Q := HQ2.out.1
  have HPB := hide (fun u => pick_any mA (nP ps) u hr1.1 hr1.2 (by omega) (by omega))
  have sb0 := pk_lo mA (nP ps) (by omega)
  have sb1 := pk_hi mA (nP ps) (by omega)
  obtain ⟨si, hsi⟩ : ∃ si : Nat, pk mA (nP ps) = si := ⟨(pk mA (nP ps)).toNat, by omega⟩
  rw [hsi] at HPB sb0 sb1
  have hsn : si < nP ps := by omega
  clear hsi
  have HC := hide (prgI.open_ Q.pk.psi (by decide) (Q.pre (by omega)) si)
  obtain ⟨A2, A3⟩ := Q.wa.opens HST.out.1 Q.pk.psi.inv Q.pk.ok (stage := si) (by omega) (by rw [stgP_len]; omega)
  have hok := open_ok Q.pk.ok HST.out.1 si
  have hrs := open_rest (F := FP es fs) Q.pk.rs si
  have hmd : (openC (FP es fs) (stgP ps) d si).1.told = d.told ∧ (openC (FP es fs) (stgP ps) d si).1.time = d.time := by
    unfold openC
    split
    · exact ⟨rfl, rfl⟩
    · split <;> exact ⟨rfl, rfl⟩
  generalize openC (FP es fs) (stgP ps) d si = X at *
  obtain ⟨d', nr, er⟩ := X
  simp only at A2 A3 hok hrs hmd HC
  obtain ⟨hm2, hm3⟩ := hmd
  obtain ⟨mm, hmm⟩ : ∃ mm : Nat, d.made = mm := ⟨d.made.toNat, by omega⟩
  have hmb : mm ≤ 150 := by omega
  have HAA := hide (And.intro A2 A3)
  have HOK := hide (And.intro hok hrs)
  have HMM := hide hmm
  rw [hmm]
  clear Q A2 A3 hok hrs hmm
  by_cases her : er = 0
  · subst her
    obtain ⟨hnr, hdm, hwa⟩ := HAA.out.1 rfl
    rw [HMM.out] at hnr hdm hwa
    rw [show ((mm : Int) + 1).toNat = mm + 1 by omega] at hwa
    subst hnr
    have HW := hide hwa
    clear hwa
    rcases hkind with h | h
    all_goals
      rw [h] at HPK
      clear h pk0 pk1
      go_wp2_with fail
      refine (HPK.out _).mono ?_
      rintro e w' ⟨rfl, rfl⟩
      go_wp2_with fail
      refine (HPB.out _).mono ?_
      rintro e w' ⟨rfl, rfl⟩
      go_wp2_with fail
      refine HC.out.mono ?_
      rintro e w3 ⟨rfl, own3, psi3, k3⟩
      have og2 := HQ2.out.1.og
      have M3 := HQ2.out.1.wm.kept k3 (by rw [og2]; decide)
      have z0 : w3.cell? ⟨g, (mm + 1) * 7, none⟩ = some (wtC (ws (mm + 1)) 0) := M3.cell (mm + 1) 0 (by omega) (by omega)
      have z1 := M3.cell (mm + 1) 1 (by omega) (by omega)
      have z2 := M3.cell (mm + 1) 2 (by omega) (by omega)
      have z3 := M3.cell (mm + 1) 3 (by omega) (by omega)
      have z4 := M3.cell (mm + 1) 4 (by omega) (by omega)
      have z5 := M3.cell (mm + 1) 5 (by omega) (by omega)
      have z6 := M3.cell (mm + 1) 6 (by omega) (by omega)
      have f0 := M3.frz ((mm + 1) * 7)
      have f1 := M3.frz ((mm + 1) * 7 + 1)
      have f2 := M3.frz ((mm + 1) * 7 + 2)
      have f3 := M3.frz ((mm + 1) * 7 + 3)
      have f4 := M3.frz ((mm + 1) * 7 + 4)
      have f5 := M3.frz ((mm + 1) * 7 + 5)
      have f6 := M3.frz ((mm + 1) * 7 + 6)
      simp only [wtC] at z0 z1 z2 z3 z4 z5 z6
      have hog3 := HQ2.out.1.g3 k3
      have hk : KeptS own3 own3 (fun x => x = 3) w3 w3 := .of_below (Below.refl _ _) k3.bound
      have hk7 : KeptS own3 own3 (fun x => x = 3) w3 _ := ((((((hk.setG (g := g) (j := (mm + 1) * 7) (v := .int .i64 0) (.inl hog3)).setG (g := g) (j := (mm + 1) * 7 + 1) (v := .int .i64 0) (.inl hog3)).setG (g := g) (j := (mm + 1) * 7 + 2) (v := .int .i64 0) (.inl hog3)).setG (g := g) (j := (mm + 1) * 7 + 3) (v := .int .i64 0) (.inl hog3)).setG (g := g) (j := (mm + 1) * 7 + 4) (v := .bool true) (.inl hog3)).setG (g := g) (j := (mm + 1) * 7 + 5) (v := .bool false) (.inl hog3)).setG (g := g) (j := (mm + 1) * 7 + 6) (v := .bool false) (.inl hog3)
      have hM7 := M3.whole (id := mm + 1) ⟨0, 0, 0, 0, true, false, false⟩
      simp only [wtC] at hM7
      have HE := hide (enters_any hM7 hog3 hk7.bound ((HQ2.out.1.stg.keptR k3 (by decide)).keptR hk7 (by decide)) (show mm + 1 < 200 by omega) (show si < (stgP ps).length by rw [stgP_len]; exact hsn) HST.out.2 HST.out.1 d.time)
      rw [upd_upd, upd_at] at HE
      have HM3 := hide (And.intro hk7 (And.intro psi3 k3))
      clear M3 psi3 k3 HC hk hM7 hk7
      go_wp2_with fail
      refine HE.out.mono ?_
      rintro e w4 ⟨rfl, M4, k4⟩
      have HM4 := hide (And.intro M4 k4)
      clear M4 k4 HE z0 z1 z2 z3 z4 z5 z6
      go_wp2_with fail
      refine HE.out _ _ _ _ _ _ _ _ _ _ _ _ _ _ _ _ _ _ _ _ _ _ _ _ _ _ _ _ _ _ _ _ _ _ _ _ _ _ _ _ _ _ _ _ _ _ _ _ _ _ _ _ _ _ _ _ _ _ _ _ _ _ _ _ _ _ _ _ _ _ _ _ _ _ _ _ _ _ _ _ _ _ _ _ _ _ _ _ _ _ _ _ _ _ _ _ _ _ _ _ _ _ _ _ _ _ _ _ _ _ _ _ _ _ _ _ _ _ _ _ _ _ _ _ _ _ _ _ _ _ _ _ _ _ _ _ _ _ _ _ _ _ _ _ _ _ _ _ _ _ _ _ _ _ _ _ _ _ _ _ _ _ _ _ _ _ _ _ _ _ _ _ _ _ _ _ _ _ _ _ _ _ _ _ _ _ _ _ _ _ _ _ _ _ _ _ _ _ _ _ _ _ _ _ _ _ _ _ _ _ _ _ _ _ _ _ _ _ _ _ _ _ _ _ _ _ _ _ _ _ _ _ _ _ _ _ _ _ _ _ _ own3 d' (upd ws (mm + 1) (entersW (stgP ps) ⟨0, 0, 0, 0, true, false, false⟩ si d.time)) _ ?_ ?_ ?_ ?_
      · exact by rw [hdm]
      · exact by rw [hm2]
      · exact by go_num
      · exact HQ2.out.1.both HM3.out.2.1 HM3.out.2.2 (HOK.out.1.mono (by omega)) HOK.out.2 (by have := HMM.out; omega) (HM3.out.1.trans HM4.out.2) HM4.out.1 (by rw [hm3]; exact HW.out)
  · have hbe : (er == 0) = false := by simpa using her
    have hdd := HAA.out.2 her
    subst hdd
    rcases hkind with h | h
    all_goals
      rw [h] at HPK
      clear h pk0 pk1
      go_wp2_with fail
      refine (HPK.out _).mono ?_
      rintro e w' ⟨rfl, rfl⟩
      go_wp2_with fail
      refine (HPB.out _).mono ?_
      rintro e w' ⟨rfl, rfl⟩
      go_wp2_with fail
      refine HC.out.mono ?_
      rintro e w3 ⟨rfl, own3, psi3, k3⟩
      have HK3 := hide (HQ2.out.1.call psi3 k3 (HOK.out.1.mono (show 80 * (i : Int) + 1 ≤ 80 * ((i + 1 : Nat) : Int) by omega)) HOK.out.2 HQ2.out.1.wa (show d'.made ≤ ((i + 1 : Nat) : Int) by omega))
      clear psi3 k3 HC
      go_wp2_with fail
      refine HE.out _ _ _ _ _ _ _ _ _ _ _ _ _ _ _ _ _ _ _ _ _ _ _ _ _ _ _ _ _ _ _ _ _ _ _ _ _ _ _ _ _ _ _ _ _ _ _ _ _ _ _ _ _ _ _ _ _ _ _ _ _ _ _ _ _ _ _ _ _ _ _ _ _ _ _ _ _ _ _ _ _ _ _ _ _ _ _ _ _ _ _ _ _ _ _ _ _ _ _ _ _ _ _ _ _ _ _ _ _ _ _ _ _ _ _ _ _ _ _ _ _ _ _ _ _ _ _ _ _ _ _ _ _ _ _ _ _ _ _ _ _ _ _ _ _ _ _ _ _ _ _ _ _ _ _ _ _ _ _ _ _ _ _ _ _ _ _ _ _ _ _ _ _ _ _ _ _ _ _ _ _ _ _ _ _ _ _ _ _ _ _ _ _ _ _ _ _ _ _ _ _ _ _ _ _ _ _ _ _ _ _ _ _ _ _ _ _ _ _ _ _ _ _ _ _ _ _ _ _ _ _ _ _ _ _ _ _ _ _ _ _ own3 d' (ws) _ ?_ ?_ ?_ ?_
      · exact by rw [HMM.out]
      · exact rfl
      · exact by go_num
      · exact HK3.out
end Go.Proofs.YtcnmbldikjljeaaGreatDoor
