import Derived.Test.YtcnmbldikjljeaaGreatDoorTTm4
import Derived.Test.YtcnmbldikjljeaaGreatDoorT28
import Derived.Deep.CutRange
namespace Go.Proofs.YtcnmbldikjljeaaGreatDoor
open Go.RowKit

set_option maxRecDepth 100000 in
set_option maxHeartbeats 16000000 in
theorem told_any {own : Nat → Nat} {w : World} {g c m te : Nat} {ws : Nat → Wt} {sv ev : Value} {st : List Stg} {vs : Nat → Value × Value} {raw : Nat → List (Int × Int)} {fr F : Nat → Bool} {L l : List Cs} {es : List Ev} {k0 t0 T : Int} (B : WM w g ws) (og : own g = 3) (hl : ∀ k, own k ≠ 0 → k < w.heap.size) (S : SW (roW own w) sv st vs) (C : CalW (roW own w) c raw fr) (E : MRow own te w 63 6 ev es.length (evsCells es)) (hte : te ≠ 3)
    (hm : m < 200) (hraw : ∀ j, (raw j).length ≤ 1000) (hF : ∀ t : Int, 0 ≤ t → t < 100800 → openL raw fr t = F t.toNat) (h6 : st.length ≤ 6) (hs : StOk st) (hT : T ≤ 100800) (hel : es.length ≤ 1000) (hk0 : 0 ≤ k0) (hk1 : k0 ≤ 1000000) (I : TI F st T m L l k0 t0 0 ws es) :
    Calls Tryz.prog 24 #[.slice (some ⟨g, 0, none⟩) (m + 1) 200, ev, .int .i64 k0, .int .i64 t0, .int .i64 T, P0 c, sv] w fun e w' => e = .returned (.bool true) ∧ ∃ ws', WM w' g ws' ∧ WA F st T L ws' ∧ KeptS own own (fun x => x = 3) w w' := by
  obtain ⟨ea, ec, hev⟩ := row_any E.1
  subst hev
  obtain ⟨sa, sc, hsv⟩ := row_any S.row
  subst hsv
  have k0' : KeptS own own (fun x => x = 3) w (w.alloc (Obj.cells #[.int .i64 0, .int .i64 t0, .int .i64 0, .int .i64 0, .int .i64 0, .int .i64 0] 63)) := .of_below ((Below.refl _ _).alloc (Nat.le_refl _) _) hl
  have T0 : T1 own w (w.alloc (Obj.cells #[.int .i64 0, .int .i64 t0, .int .i64 0, .int .i64 0, .int .i64 0, .int .i64 0] 63)) g w.heap.size F st T m L es k0 0 t0 0 ws := ⟨⟨l, by simpa using I⟩, B.on ((Below.refl _ _).alloc (Nat.le_refl _) _), k0', 0, 0, 0, 0, heap_alloc_new _ _⟩
  have HT0 := hide T0
  have HSC := hide (And.intro S (And.intro C E))
  have HR := hide (And.intro hraw hF)
  clear B S C E I k0' T0 hraw hF
  go_enter Tryz.func24, Tryz.ntmps24
  go_wp2_with fail
  generalize w.alloc (Obj.cells #[.int .i64 0, .int .i64 t0, .int .i64 0, .int .i64 0, .int .i64 0, .int .i64 0] 63) = W at *
  refine told_loop HT0.out og hl HSC.out.1 HSC.out.2.1 HSC.out.2.2 hte hm HR.out.1 HR.out.2 h6 hs hT hel hk0 hk1 _ ?_
  · intro u2 u14 u16 u17 u18 u19 u20 u21 u22 u29 u30 u31 u32 u33 u34 u35 u36 u37 u38 u39 u40 u41 u42 u43 u44 u45 u46 u47 u48 u49 u50 u51 u52 u53 u54 u55 u56 u57 u58 u59 u60 u61 u62 u63 u64 u65 u66 u67 u68 u69 u70 u71 u72 u73 u74 u75 u76 u77 u78 u79 u80 u81 u82 u83 u84 u85 u86 u87 u88 u89 u90 u91 u92 u93 u94 u95 u96 u97 u98 u99 u100 u101 u102 u103 u104 u105 u106 u107 u108 u109 u110 u111 u112 u113 u114 u115 u116 u117 u118 u119 u120 u121 u122 u123 u124 u125 u126 u127 u128 u129 u130 u131 u132 u133 u134 u135 u136 u137 u138 u139 u140 u141 u142 u143 u144 u145 u146 u147 u148 u149 u150 u151 u152 u153 u154 u155 u156 u157 u158 u159 u160 u161 u162 u163 u164 u165 u166 u167 u168 u169 u170 u171 u172 u173 u174 u175 u176 u177 u178 u179 u180 u181 u182 u183 u184 u185 u186 u187 u188 u189 u190 u191 u192 u193 u194 u195 u196 u197 u198 u199 u200 u201 u202 u203 u204 u205 u206 u207 u208 u209 u210 u211 u212 u213 u214 u215 u216 u217 u218 u219 u220 u221 u222 u223 u224 u225 u226 u227 u228 u229 u230 u231 u232 u233 u234 u235 u236 lt lc ws' wx R
    try dsimp only
    obtain ⟨l1, R1⟩ := R.ti
    rw [List.drop_length] at R1
    obtain ⟨hL, hdue⟩ := R1.done hs
    have hwa := R1.wa
    have htp := R1.top
    have hl0 := R1.l0
    have hl1 := R1.l1
    have HX := hide (And.intro R.wm (And.intro R.kp (And.intro hwa (And.intro htp hdue))))
    clear R R1 hwa htp hdue
    subst hL
    go_wp2_with fail
    go_loopw [23] (fun idv wz => ∃ id : Nat, idv = .int .i64 id ∧ 1 ≤ id ∧ id ≤ m + 1 ∧ WM wz g ws' ∧ KeptS own own (fun x => x = 3) w wz) (fun idv _ => m + 1 - (intOf idv).toNat)
    case atStart => exact ⟨1, rfl, by omega, by omega, HX.out.1, HX.out.2.1⟩
    case round =>
      obtain ⟨id, rfl, hd1, hd2, M, K⟩ := hrel
      by_cases hlt2 : id < m + 1
      · have hlt2' : (id : Int) < (m : Int) + 1 := by omega
        have hid2 : id < 200 := by omega
        have d0 : wr.cell? ⟨g, id * 7, none⟩ = some (.int .i64 (ws' id).since) := M.cell id 0 hid2 (by omega)
        have d1 := M.cell id 1 hid2 (by omega)
        have d2 := M.cell id 2 hid2 (by omega)
        have d3 := M.cell id 3 hid2 (by omega)
        have d4 := M.cell id 4 hid2 (by omega)
        have d5 := M.cell id 5 hid2 (by omega)
        have d6 := M.cell id 6 hid2 (by omega)
        simp only [wtC] at d1 d2 d3 d4 d5 d6
        have hxb : (wr.alloc (Obj.cells #[.int .i64 (ws' id).since, .int .i64 (ws' id).togo, .int .i64 (ws' id).stage, .int .i64 (ws' id).level, .bool (ws' id).there, .bool (ws' id).on, .bool (ws' id).held] 53)).heap[wr.heap.size]? = some (.cells #[.int .i64 (ws' id).since, .int .i64 (ws' id).togo, .int .i64 (ws' id).stage, .int .i64 (ws' id).level, .bool (ws' id).there, .bool (ws' id).on, .bool (ws' id).held] 53 (0, 0)) := heap_alloc_new _ _
        have hbel : Below wr.heap.size wr (wr.alloc (Obj.cells #[.int .i64 (ws' id).since, .int .i64 (ws' id).togo, .int .i64 (ws' id).stage, .int .i64 (ws' id).level, .bool (ws' id).there, .bool (ws' id).on, .bool (ws' id).held] 53)) := (Below.refl _ _).alloc (Nat.le_refl _) _
        have HM := hide (And.intro (M.on hbel) (K.trans (.of_below hbel K.bound)))
        clear M K hbel
        go_upto_region 26 with fail
        generalize wr.alloc (Obj.cells #[.int .i64 (ws' id).since, .int .i64 (ws' id).togo, .int .i64 (ws' id).stage, .int .i64 (ws' id).level, .bool (ws' id).there, .bool (ws' id).on, .bool (ws' id).held] 53) = U at *
        have c0 : U.cell? ⟨wr.heap.size, 0, none⟩ = some (.int .i64 (ws' id).since) := by simp [World.cell?, hxb]
        have c1 : U.cell? ⟨wr.heap.size, 1, none⟩ = some (.int .i64 (ws' id).togo) := by simp [World.cell?, hxb]
        have c4 : U.cell? ⟨wr.heap.size, 4, none⟩ = some (.bool (ws' id).there) := by simp [World.cell?, hxb]
        have c5 : U.cell? ⟨wr.heap.size, 5, none⟩ = some (.bool (ws' id).on) := by simp [World.cell?, hxb]
        have c6 : U.cell? ⟨wr.heap.size, 6, none⟩ = some (.bool (ws' id).held) := by simp [World.cell?, hxb]
        have hul : wr.heap.size < U.heap.size := (Array.getElem?_eq_some_iff.1 hxb).1
        clear d0 d1 d2 d3 d4 d5 d6
        by_cases hgo : (ws' id).there = true ∧ (ws' id).held = false ∧ (ws' id).on = true
        · obtain ⟨t1, t2, t3⟩ := hgo
          have hex : ∃ x ∈ L, x.id = (id : Int) := Classical.byContradiction fun hn => by
            have := HX.out.2.2.1.none id (fun x hx e => hn ⟨x, hx, e⟩)
            rw [this] at t1; cases t1
          obtain ⟨x, hx, hxi⟩ := hex
          have hwr := HX.out.2.2.1.rel x hx
          rw [hxi, Int.toNat_natCast] at hwr
          have hq := hwr.quiet (u := T) t2 t3 (fun h => HX.out.2.2.2.2 x hx h) hl1 hT
          have n0 := hwr.s0
          have n1 := hwr.s1
          have HBT := hide (between_any c raw fr F (ws' id).since T U ((HSC.out.2.1.keptR HM.out.2 (by decide)).unroP) HR.out.1 HR.out.2 n0 (by omega) hT)
          rw [t1] at c4
          rw [t2] at c6
          rw [t3] at c5
          clear hwr
          generalize (ws' id).since = sn at *
          generalize (ws' id).togo = tg at *
          generalize cnt F T.toNat - cnt F sn.toNat = gn at *
          go_wp2_with fail
          refine HBT.out.mono ?_
          rintro e U2 ⟨rfl, hb2⟩
          have c1' : U2.cell? ⟨wr.heap.size, 1, none⟩ = some (.int .i64 tg) := (hb2.cell (p := ⟨wr.heap.size, 1, none⟩) hul).trans c1
          have HM2 := hide (And.intro (HM.out.1.on hb2) (HM.out.2.trans (.of_below hb2 HM.out.2.bound)))
          have hgt : ¬ tg ≤ gn := by omega
          clear hb2 HM c0 c1 c4 c5 c6 hxb
          go_wp2_with fail
          go_roundw
          case rel => exact ⟨id + 1, by go_num, by omega, by omega, HM2.out⟩
          case measure => simp [intOf]; omega
        · have hx : (ws' id).there = false ∨ ((ws' id).there = true ∧ (ws' id).held = true) ∨ ((ws' id).there = true ∧ (ws' id).held = false ∧ (ws' id).on = false) := by
            revert hgo
            cases (ws' id).there <;> cases (ws' id).held <;> cases (ws' id).on <;> simp
          clear hgo
          rcases hx with t1 | ⟨t1, t2⟩ | ⟨t1, t2, t3⟩
          · rw [t1] at c4
            go_wp2_with fail
            go_roundw
            case rel => exact ⟨id + 1, by go_num, by omega, by omega, HM.out⟩
            case measure => simp [intOf]; omega
          · rw [t1] at c4
            rw [t2] at c6
            go_wp2_with fail
            go_roundw
            case rel => exact ⟨id + 1, by go_num, by omega, by omega, HM.out⟩
            case measure => simp [intOf]; omega
          · rw [t1] at c4
            rw [t2] at c6
            rw [t3] at c5
            go_wp2_with fail
            go_roundw
            case rel => exact ⟨id + 1, by go_num, by omega, by omega, HM.out⟩
            case measure => simp [intOf]; omega
      · have hlt2' : ¬ (id : Int) < (m : Int) + 1 := by omega
        have HM := hide (And.intro M K)
        clear M K
        go_wp2_with fail
        go_ret
        exact ⟨rfl, ws', HM.out.1, HX.out.2.2.1.later hl1 hl0, HM.out.2⟩
end Go.Proofs.YtcnmbldikjljeaaGreatDoor
namespace Go.Proofs.YtcnmbldikjljeaaGreatDoor
open Go.RowKit

set_option maxRecDepth 1000000 in
set_option maxHeartbeats 16000000 in
theorem t_tick {W wr : World} {own : Nat → Nat} {p c g : Nat} {es : List Ent} {fs : List Int} {ps : List (List (Int × Int))} {oa : Option Addr} {oc : Nat} {vs : Nat → Value × Value} {d : Dk} {ws : Nat → Wt} {ms : List Mv} {ma : Option Addr} {mc : Nat} {i : Nat} (HMV : MV W (.slice ma ms.length mc) ms) (hml : ms.length ≤ 9223372036854775807) (hlt : i < ms.length) (h150 : i < 150) (Q : TY W wr own p c g es fs ps (.slice oa (nP ps) oc) vs d ws (80 * i) i) (hkind : 4 ≤ pk ms[i].1 10 ∧ pk ms[i].1 10 ≤ 7) (K : Act → World → Prop) (Q' : Exit → Act → World → Prop)
    {c0 c1 c3 c4 c5 c6 c14 c15 c16 c17 c18 c19 c20 c21 c22 c23 c24 c25 c26 c27 c28 c29 c30 c31 c32 c33 c34 c35 c36 c37 c38 c39 c40 c41 c42 c43 c44 c45 c46 c47 c48 c49 c50 c51 c52 c53 c54 c55 c56 c57 c58 c59 c60 c61 c62 c63 c64 c65 c66 c67 c68 c69 c70 c71 c72 c73 c74 c75 c76 c77 c78 c79 c80 c81 c82 c83 c84 c85 c86 c87 c88 c89 c90 c91 c92 c93 c94 c95 c96 c97 c98 c99 c100 c101 c102 c103 c104 c105 c106 c107 c108 c109 c110 c111 c112 c113 c114 c115 c116 c117 c118 c119 c120 c121 c122 c123 c124 c125 c126 c127 c128 c129 c130 c131 c132 c133 c134 c135 c136 c137 c138 c139 c140 c141 c142 c143 c144 c145 c146 c147 c148 c149 c150 c151 c152 c153 c154 c155 c156 c157 c158 c159 c160 c161 c162 c163 c164 c165 c166 c167 c168 c169 c170 c171 c172 c173 c174 c175 c176 c177 c178 c179 c180 c181 c182 c183 c184 c185 c186 c187 c188 c189 c190 c191 c192 c193 c194 c195 c196 c197 c198 c199 c200 c201 c202 c203 c204 c205 c206 c207 c208 c209 c210 c211 c212 c213 c214 c215 c216 c217 c218 c219 c220 c221 c222 c223 c224 c225 c226 c227 c228 c229 c230 c231 c232 c233 c234 c235 c236 c237 c238 c239 c240 c241 c242 c243 c244 c245 c246 c247 c248 c249 c250 c251 c252 c253 c254 c255 c256 c257 c258 c259 c260 : Value}
    (hend : ∀ (u6 u14 u15 u16 u17 u18 u19 u20 u21 u22 u23 u24 u25 u26 u27 u28 u29 u30 u31 u32 u43 u44 u45 u46 u47 u48 u49 u50 u51 u52 u53 u54 u55 u56 u57 u58 u59 u60 u61 u62 u63 u64 u65 u66 u67 u68 u69 u70 u71 u72 u73 u74 u75 u76 u77 u78 u79 u80 u81 u82 u83 u84 u85 u86 u87 u88 u89 u90 u91 u92 u93 u94 u95 u96 u97 u98 u99 u100 u101 u102 u103 u104 u105 u106 u107 u108 u109 u110 u111 u112 u113 u114 u115 u116 u117 u118 u119 u120 u121 u122 u123 u124 u125 u126 u127 u128 u129 u130 u131 u132 u133 u134 u135 u136 u137 u138 u139 u140 u141 u142 u143 u144 u145 u146 u147 u148 u149 u150 u151 u152 u153 u154 u155 u156 u157 u158 u159 u160 u161 u162 u163 u164 u165 u166 u167 u168 u169 u170 u171 u172 u173 u174 u175 u176 u177 u178 u179 u180 u181 u182 u183 u184 u185 u186 u187 u188 u189 u190 u191 u192 u193 u194 u195 u196 u197 u198 u199 u200 u201 u202 u203 u204 u205 u206 u207 u208 u209 u210 u211 u212 u213 u214 u215 u216 u217 u218 u219 u220 u221 u222 u223 u224 u225 u226 u227 u228 u229 u230 u231 u232 u233 u234 u235 u236 u237 u238 u239 u240 u241 u242 u243 u244 u245 u246 u247 u248 u249 u250 u251 u252 u253 u254 u255 u256 u257 u258 u259 u260 v11 v12 v13 : Value) (own' : Nat → Nat) (d' : Dk) (ws' : Nat → Wt) (wz : World), v11 = .int .i64 d'.made → v12 = .int .i64 d'.told → v13 = .int .i64 ((i + 1 : Nat) : Int) → TY W wz own' p c g es fs ps (.slice oa (nP ps) oc) vs d' ws' (80 * ((i + 1 : Nat) : Int)) ((i + 1 : Nat) : Int) → K ⟨List.toArray (c0 :: c1 :: .slice ma ms.length mc :: c3 :: c4 :: c5 :: u6 :: P0 p :: P0 c :: .slice oa (nP ps) oc :: .slice (some ⟨g, 0, none⟩) 200 200 :: v11 :: v12 :: v13 :: u14 :: u15 :: u16 :: u17 :: u18 :: u19 :: u20 :: u21 :: u22 :: u23 :: u24 :: u25 :: u26 :: u27 :: u28 :: u29 :: u30 :: u31 :: u32 :: c33 :: c34 :: c35 :: c36 :: c37 :: c38 :: c39 :: c40 :: c41 :: c42 :: u43 :: u44 :: u45 :: u46 :: u47 :: u48 :: u49 :: u50 :: u51 :: u52 :: u53 :: u54 :: u55 :: u56 :: u57 :: u58 :: u59 :: u60 :: u61 :: u62 :: u63 :: u64 :: u65 :: u66 :: u67 :: u68 :: u69 :: u70 :: u71 :: u72 :: u73 :: u74 :: u75 :: u76 :: u77 :: u78 :: u79 :: u80 :: u81 :: u82 :: u83 :: u84 :: u85 :: u86 :: u87 :: u88 :: u89 :: u90 :: u91 :: u92 :: u93 :: u94 :: u95 :: u96 :: u97 :: u98 :: u99 :: u100 :: u101 :: u102 :: u103 :: u104 :: u105 :: u106 :: u107 :: u108 :: u109 :: u110 :: u111 :: u112 :: u113 :: u114 :: u115 :: u116 :: u117 :: u118 :: u119 :: u120 :: u121 :: u122 :: u123 :: u124 :: u125 :: u126 :: u127 :: u128 :: u129 :: u130 :: u131 :: u132 :: u133 :: u134 :: u135 :: u136 :: u137 :: u138 :: u139 :: u140 :: u141 :: u142 :: u143 :: u144 :: u145 :: u146 :: u147 :: u148 :: u149 :: u150 :: u151 :: u152 :: u153 :: u154 :: u155 :: u156 :: u157 :: u158 :: u159 :: u160 :: u161 :: u162 :: u163 :: u164 :: u165 :: u166 :: u167 :: u168 :: u169 :: u170 :: u171 :: u172 :: u173 :: u174 :: u175 :: u176 :: u177 :: u178 :: u179 :: u180 :: u181 :: u182 :: u183 :: u184 :: u185 :: u186 :: u187 :: u188 :: u189 :: u190 :: u191 :: u192 :: u193 :: u194 :: u195 :: u196 :: u197 :: u198 :: u199 :: u200 :: u201 :: u202 :: u203 :: u204 :: u205 :: u206 :: u207 :: u208 :: u209 :: u210 :: u211 :: u212 :: u213 :: u214 :: u215 :: u216 :: u217 :: u218 :: u219 :: u220 :: u221 :: u222 :: u223 :: u224 :: u225 :: u226 :: u227 :: u228 :: u229 :: u230 :: u231 :: u232 :: u233 :: u234 :: u235 :: u236 :: u237 :: u238 :: u239 :: u240 :: u241 :: u242 :: u243 :: u244 :: u245 :: u246 :: u247 :: u248 :: u249 :: u250 :: u251 :: u252 :: u253 :: u254 :: u255 :: u256 :: u257 :: u258 :: u259 :: u260 :: []), []⟩ wz) :
    Code.wp Tryz.prog ((Tryz.f7.body.bind firstLoop).getD .skip) (Exit.then K Q') ⟨List.toArray (c0 :: c1 :: .slice ma ms.length mc :: c3 :: c4 :: c5 :: c6 :: P0 p :: P0 c :: .slice oa (nP ps) oc :: .slice (some ⟨g, 0, none⟩) 200 200 :: .int .i64 d.made :: .int .i64 d.told :: .int .i64 i :: c14 :: c15 :: c16 :: c17 :: c18 :: c19 :: c20 :: c21 :: c22 :: c23 :: c24 :: c25 :: c26 :: c27 :: c28 :: c29 :: c30 :: c31 :: c32 :: c33 :: c34 :: c35 :: c36 :: c37 :: c38 :: c39 :: c40 :: c41 :: c42 :: c43 :: c44 :: c45 :: c46 :: c47 :: c48 :: c49 :: c50 :: c51 :: c52 :: c53 :: c54 :: c55 :: c56 :: c57 :: c58 :: c59 :: c60 :: c61 :: c62 :: c63 :: c64 :: c65 :: c66 :: c67 :: c68 :: c69 :: c70 :: c71 :: c72 :: c73 :: c74 :: c75 :: c76 :: c77 :: c78 :: c79 :: c80 :: c81 :: c82 :: c83 :: c84 :: c85 :: c86 :: c87 :: c88 :: c89 :: c90 :: c91 :: c92 :: c93 :: c94 :: c95 :: c96 :: c97 :: c98 :: c99 :: c100 :: c101 :: c102 :: c103 :: c104 :: c105 :: c106 :: c107 :: c108 :: c109 :: c110 :: c111 :: c112 :: c113 :: c114 :: c115 :: c116 :: c117 :: c118 :: c119 :: c120 :: c121 :: c122 :: c123 :: c124 :: c125 :: c126 :: c127 :: c128 :: c129 :: c130 :: c131 :: c132 :: c133 :: c134 :: c135 :: c136 :: c137 :: c138 :: c139 :: c140 :: c141 :: c142 :: c143 :: c144 :: c145 :: c146 :: c147 :: c148 :: c149 :: c150 :: c151 :: c152 :: c153 :: c154 :: c155 :: c156 :: c157 :: c158 :: c159 :: c160 :: c161 :: c162 :: c163 :: c164 :: c165 :: c166 :: c167 :: c168 :: c169 :: c170 :: c171 :: c172 :: c173 :: c174 :: c175 :: c176 :: c177 :: c178 :: c179 :: c180 :: c181 :: c182 :: c183 :: c184 :: c185 :: c186 :: c187 :: c188 :: c189 :: c190 :: c191 :: c192 :: c193 :: c194 :: c195 :: c196 :: c197 :: c198 :: c199 :: c200 :: c201 :: c202 :: c203 :: c204 :: c205 :: c206 :: c207 :: c208 :: c209 :: c210 :: c211 :: c212 :: c213 :: c214 :: c215 :: c216 :: c217 :: c218 :: c219 :: c220 :: c221 :: c222 :: c223 :: c224 :: c225 :: c226 :: c227 :: c228 :: c229 :: c230 :: c231 :: c232 :: c233 :: c234 :: c235 :: c236 :: c237 :: c238 :: c239 :: c240 :: c241 :: c242 :: c243 :: c244 :: c245 :: c246 :: c247 :: c248 :: c249 :: c250 :: c251 :: c252 :: c253 :: c254 :: c255 :: c256 :: c257 :: c258 :: c259 :: c260 :: []), []⟩ wr := by
  conv => arg 2; whnf
  have HE := hide hend
  have HA := hide (And.intro True.intro (And.intro True.intro HMV))
  have HST := hide (stgP_ok ps)
  have hn := nP_bd (ps := ps)
  clear hend HMV
  have hpt := parse_txt es fs (asc_txt es fs)
  have htl := txt_le es fs
  have HFEW := hide (parse_len (txtB es fs) (by show (theTxt es fs).toArray.size ≤ 200; simp; omega) hpt.1)
  clear hpt htl
  have hlt' : (i : Int) < ms.length := by omega
  have h150' : (i : Int) < 150 := by omega
  obtain ⟨mb, mo, mc2, hmf⟩ := HA.out.2.2.row.some (by omega) (by omega)
  simp only [Value.slice.injEq] at hmf
  obtain ⟨rfl, _, rfl⟩ := hmf
  obtain ⟨m0, m1, m2⟩ := (HA.out.2.2.on Q.kw.low).at i hlt
  have hr := HA.out.2.2.rng _ (List.getElem_mem hlt)
  generalize ms[i] = mi at *
  obtain ⟨mk, mA, mB⟩ := mi
  simp only at m0 m1 m2 hr hkind
  obtain ⟨hr0, hr1, hr2⟩ := hr
  have hbx : Below wr.heap.size wr (wr.alloc (Obj.cells #[.int .i64 mk, .int .i64 mA, .int .i64 mB] 41)) := (Below.refl _ _).alloc (Nat.le_refl _) _
  have x0 : (wr.alloc (Obj.cells #[.int .i64 mk, .int .i64 mA, .int .i64 mB] 41)).heap[wr.heap.size]? = some (.cells #[.int .i64 mk, .int .i64 mA, .int .i64 mB] 41 (0, 0)) := heap_alloc_new _ _
  have hxo : own wr.heap.size = 0 := Classical.byContradiction fun h => by have := Q.kw.lt _ h; omega
  have HQ := hide (And.intro (Q.below hbx) (And.intro x0 hxo))
  have HC := hide (prgI.now HQ.out.1.pk.psi (by decide) (HQ.out.1.pre (by omega)))
  have dm0 := Q.pk.ok.m0
  have dm1 := Q.md
  have dt0 := Q.pk.ok.t0
  have dt1 := Q.pk.ok.t1
  have dk0 := Q.pk.ok.k0
  have dk1 := Q.pk.ok.k1
  clear Q hbx x0 hxo
  go_wp2_with fail
  refine HC.out.mono ?_
  rintro e w2 ⟨rfl, own2, psi2, k2⟩
  have Q2 := HQ.out.1.call psi2 k2 HQ.out.1.pk.ok HQ.out.1.pk.rs HQ.out.1.wa HQ.out.1.md
  obtain ⟨x2, o2⟩ := k2.at HQ.out.2.1 (by rw [HQ.out.2.2]; decide)
  rw [HQ.out.2.2] at o2
  have hxl : wr.heap.size < w2.heap.size := (Array.getElem?_eq_some_iff.1 x2).1
  have y0 : w2.cell? ⟨wr.heap.size, 0, none⟩ = some (.int .i64 mk) := by simp [World.cell?, x2]
  have y1 : w2.cell? ⟨wr.heap.size, 1, none⟩ = some (.int .i64 mA) := by simp [World.cell?, x2]
  have y2 : w2.cell? ⟨wr.heap.size, 2, none⟩ = some (.int .i64 mB) := by simp [World.cell?, x2]
  have HQ2 := hide (And.intro Q2 (And.intro x2 o2))
  have HPA := hide (fun u => pick_any mA 12 u hr1.1 hr1.2 (by omega) (by omega))
  have HPK := hide (fun u => pick_any mk 10 u hr0.1 hr0.2 (by omega) (by omega))
  have pa0 := pk_lo mA 12 (by omega)
  have pa1 := pk_hi mA 12 (by omega)
  have pk0 := pk_lo mk 10 (by omega)
  have pk1 := pk_hi mk 10 (by omega)
  obtain ⟨id, hid⟩ : ∃ id : Nat, 1 + pk mA 12 = id := ⟨(1 + pk mA 12).toNat, by omega⟩
  have hid1 : id ≤ 12 := by omega
  have hwid : IntKind.i64.wrap (1 + pk mA 12) = id := by rw [IntWalk.i64_in _ (by omega)]; exact hid
  clear Q2 psi2 k2 HQ HC x2 o2 m0 m1 m2
  go_wp2_with fail
  refine (HPA.out _).mono ?_
  rintro e w' ⟨rfl, rfl⟩
  have hid200 : (id : Int) < 200 := by omega
  have Q := HQ2.out.1
  have h4 := hkind.1
  have h7 := hkind.2
  clear hkind pk0 pk1
  generalize pk mk 10 = kk at *
  have b0 : (kk == 0) = false := by simp; omega
  have b1 : (kk == 1) = false := by simp; omega
  have b2 : (kk == 2) = false := by simp; omega
  have b3 : (kk == 3) = false := by simp; omega
  have b8 : (kk == 8) = false := by simp; omega
  have b9 : (kk == 9) = false := by simp; omega
  have HPB := hide (fun u => pick_any mB 3000 u hr2.1 hr2.2 (by omega) (by omega))
  have nb0 := pk_lo mB 3000 (by omega)
  have nb1 := pk_hi mB 3000 (by omega)
  generalize pk mB 3000 = n at *
  have HC := hide (tickN_psi Q.pk.psi (by decide) (Q.pre (by omega)) n)
  have hok := tick_ok Q.pk.ok Q.pk.rs HST.out.1 n
  have htl := tick_told (FP es fs) (stgP ps) d n
  have hti : d.time + n ≤ 100800 → TI (FP es fs) (stgP ps) (d.time + n) d.made (tickC (FP es fs) (stgP ps) d n).1.cases d.cases d.told d.time 0 ws (tickC (FP es fs) (stgP ps) d n).2.1 := fun h => TI.start Q.pk.psi.inv Q.pk.ok Q.wa (by omega) h
  have htm : (d.time + n ≤ 100800 → (tickC (FP es fs) (stgP ps) d n).1.time = d.time + n ∧ (tickC (FP es fs) (stgP ps) d n).2.2 = 0) ∧ (¬ d.time + n ≤ 100800 → (tickC (FP es fs) (stgP ps) d n).1 = d ∧ (tickC (FP es fs) (stgP ps) d n).2.2 = 1) := by
    unfold tickC
    refine ⟨fun h => ?_, fun h => ?_⟩
    · rw [if_neg (by omega)]; exact ⟨rfl, rfl⟩
    · rw [if_pos (by omega)]; exact ⟨rfl, rfl⟩
  generalize tickC (FP es fs) (stgP ps) d n = X at *
  obtain ⟨d', evs, er⟩ := X
  simp only at hok htl hti htm HC
  obtain ⟨hok1, hok2, hel⟩ := hok
  obtain ⟨ht1, ht2⟩ := htl
  have HOK := hide (And.intro hok1 hok2)
  have HTI := hide hti
  clear Q hok1 hok2 hti
  obtain ⟨mm, hmm⟩ : ∃ mm : Nat, d.made = mm := ⟨d.made.toNat, by omega⟩
  have hmb : mm ≤ 150 := by omega
  by_cases hle : d.time + n ≤ 100800
  · obtain ⟨htime, her⟩ := htm.1 hle
    subst her
    have HMM := hide (And.intro hmm (And.intro ht2 htime))
    rw [hmm]
    clear htm hmm ht2 htime
    go_wp2_with fail
    refine (HPK.out _).mono ?_
    rintro e w' ⟨rfl, rfl⟩
    go_wp2_with fail
    refine (HPB.out _).mono ?_
    rintro e w' ⟨rfl, rfl⟩
    go_wp2_with fail
    refine HC.out.mono ?_
    rintro e w3 ⟨ov, own3, rfl, A, hnil⟩
    have hrow := A.row
    have htag := A.tag
    simp only at hrow
    have psi3 := A.psi
    have k3 := A.kept
    simp only at psi3
    obtain ⟨va, vc, hov⟩ := row_any hrow
    subst hov
    have og3 := HQ2.out.1.g3 k3
    have M3 := HQ2.out.1.wm.kept k3 (by rw [HQ2.out.1.og]; decide)
    have HTO := hide (told_any (m := mm) (te := 8) (k0 := d.told) (t0 := d.time) (T := d.time + n) M3 og3 k3.bound (HQ2.out.1.stg.keptR k3 (by decide)) (HQ2.out.1.cal.keptR k3 (by decide)) ⟨row_mono hrow (Nat.zero_le _), htag⟩ (by decide) (by omega) HFEW.out (ff_eq _ _) (by rw [stgP_len]; omega) HST.out.1 hle (by omega) dk0 (by omega) (by have := HTI.out hle; rwa [HMM.out.1] at this))
    have HM3 := hide (And.intro psi3 k3)
    clear A hrow htag psi3 k3 hnil M3 HC
    go_wp2_with fail
    refine HTO.out.mono ?_
    rintro e w4 ⟨rfl, ws4, M4, wa4, k4⟩
    have HK4 := hide (HQ2.out.1.both HM3.out.1 HM3.out.2 (HOK.out.1.mono (show 80 * (i : Int) + 80 ≤ 80 * ((i + 1 : Nat) : Int) by omega)) HOK.out.2 (show d'.made ≤ ((i + 1 : Nat) : Int) by rw [HMM.out.2.1]; omega) k4 M4 (by rw [HMM.out.2.2]; exact wa4))
    clear M4 wa4 k4 HTO
    go_wp2_with fail
    refine HE.out _ _ _ _ _ _ _ _ _ _ _ _ _ _ _ _ _ _ _ _ _ _ _ _ _ _ _ _ _ _ _ _ _ _ _ _ _ _ _ _ _ _ _ _ _ _ _ _ _ _ _ _ _ _ _ _ _ _ _ _ _ _ _ _ _ _ _ _ _ _ _ _ _ _ _ _ _ _ _ _ _ _ _ _ _ _ _ _ _ _ _ _ _ _ _ _ _ _ _ _ _ _ _ _ _ _ _ _ _ _ _ _ _ _ _ _ _ _ _ _ _ _ _ _ _ _ _ _ _ _ _ _ _ _ _ _ _ _ _ _ _ _ _ _ _ _ _ _ _ _ _ _ _ _ _ _ _ _ _ _ _ _ _ _ _ _ _ _ _ _ _ _ _ _ _ _ _ _ _ _ _ _ _ _ _ _ _ _ _ _ _ _ _ _ _ _ _ _ _ _ _ _ _ _ _ _ _ _ _ _ _ _ _ _ _ _ _ _ _ _ _ _ _ _ _ _ _ _ _ _ _ _ _ _ _ _ _ _ _ _ _ own3 d' (ws4) _ ?_ ?_ ?_ ?_
    · exact by rw [HMM.out.2.1, HMM.out.1]
    · exact by rw [ht1]
    · exact by go_num
    · exact HK4.out
  · obtain ⟨hdd, her⟩ := htm.2 hle
    subst hdd
    subst her
    clear htm ht1 ht2
    go_wp2_with fail
    refine (HPK.out _).mono ?_
    rintro e w' ⟨rfl, rfl⟩
    go_wp2_with fail
    refine (HPB.out _).mono ?_
    rintro e w' ⟨rfl, rfl⟩
    go_wp2_with fail
    refine HC.out.mono ?_
    rintro e w3 ⟨ov, own3, rfl, A, hnil⟩
    have hrow := A.row
    simp only at hrow
    obtain ⟨va, vc, hov⟩ := row_any hrow
    subst hov
    have psi3 := A.psi
    simp only at psi3
    have HK3 := hide (HQ2.out.1.call psi3 A.kept (HOK.out.1.mono (show 80 * (i : Int) + 80 ≤ 80 * ((i + 1 : Nat) : Int) by omega)) HOK.out.2 HQ2.out.1.wa (show d'.made ≤ ((i + 1 : Nat) : Int) by omega))
    clear A hrow hnil psi3 HC
    go_wp2_with fail
    refine HE.out _ _ _ _ _ _ _ _ _ _ _ _ _ _ _ _ _ _ _ _ _ _ _ _ _ _ _ _ _ _ _ _ _ _ _ _ _ _ _ _ _ _ _ _ _ _ _ _ _ _ _ _ _ _ _ _ _ _ _ _ _ _ _ _ _ _ _ _ _ _ _ _ _ _ _ _ _ _ _ _ _ _ _ _ _ _ _ _ _ _ _ _ _ _ _ _ _ _ _ _ _ _ _ _ _ _ _ _ _ _ _ _ _ _ _ _ _ _ _ _ _ _ _ _ _ _ _ _ _ _ _ _ _ _ _ _ _ _ _ _ _ _ _ _ _ _ _ _ _ _ _ _ _ _ _ _ _ _ _ _ _ _ _ _ _ _ _ _ _ _ _ _ _ _ _ _ _ _ _ _ _ _ _ _ _ _ _ _ _ _ _ _ _ _ _ _ _ _ _ _ _ _ _ _ _ _ _ _ _ _ _ _ _ _ _ _ _ _ _ _ _ _ _ _ _ _ _ _ _ _ _ _ _ _ _ _ _ _ _ _ _ own3 d' (ws) _ ?_ ?_ ?_ ?_
    · exact by rw [hmm]
    · exact rfl
    · exact by go_num
    · exact HK3.out
end Go.Proofs.YtcnmbldikjljeaaGreatDoor
