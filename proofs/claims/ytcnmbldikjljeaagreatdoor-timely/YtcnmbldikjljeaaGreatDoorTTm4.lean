import Derived.Test.YtcnmbldikjljeaaGreatDoorT28
import Derived.Deep.CutRange
namespace Go.Proofs.YtcnmbldikjljeaaGreatDoor
open Go.RowKit

/-- where the first loop of told stands -/
structure T1 (own : Nat → Nat) (w wr : World) (g B : Nat) (F : Nat → Bool) (st : List Stg) (T : Int) (m : Nat) (L : List Cs) (es : List Ev) (k0 : Int) (i : Nat) (lt lc : Int) (ws : Nat → Wt) : Prop where
  ti : ∃ l, TI F st T m L l (k0 + i) lt lc ws (es.drop i)
  wm : WM wr g ws
  kp : KeptS own own (fun x => x = 3) w wr
  bx : ∃ a0 a3 a4 a5, wr.heap[B]? = some (.cells #[.int .i64 a0, .int .i64 lt, .int .i64 lc, .int .i64 a3, .int .i64 a4, .int .i64 a5] 63 (0, 0))
/-- .. inside its round -/
structure T2 (own : Nat → Nat) (w wz : World) (g B1 B2 : Nat) (ws : Nat → Wt) (A1 A2 : Array Value) : Prop where
  wm : WM wz g ws
  kp : KeptS own own (fun x => x = 3) w wz
  x1 : wz.heap[B1]? = some (.cells A1 63 (0, 0))
  x2 : wz.heap[B2]? = some (.cells A2 63 (0, 0))
theorem T2.on {own : Nat → Nat} {w wz u : World} {g B1 B2 : Nat} {ws : Nat → Wt} {A1 A2 : Array Value} (h : T2 own w wz g B1 B2 ws A1 A2) (hb : Below wz.heap.size wz u) : T2 own w u g B1 B2 ws A1 A2 :=
  ⟨h.wm.on hb, h.kp.trans (.of_below hb h.kp.bound), (hb.block _ (Array.getElem?_eq_some_iff.1 h.x1).1).trans h.x1, (hb.block _ (Array.getElem?_eq_some_iff.1 h.x2).1).trans h.x2⟩
theorem T2.put {own : Nat → Nat} {w wz : World} {g B1 B2 id : Nat} {ws : Nat → Wt} {k : Wt} {A1 A2 : Array Value} (h : T2 own w wz g B1 B2 (upd ws id k) A1 A2) (og : own g = 3) (h1 : B1 ≠ g) (h2 : B2 ≠ g) (c : Nat) (hc : c < 7) (k' : Wt) {v : Value} (hv : wtC k' c = v) (ho : ∀ c', c' < 7 → c' ≠ c → wtC k' c' = wtC k c') : T2 own w (wz.setCell ⟨g, id * 7 + c, none⟩ v) g B1 B2 (upd ws id k') A1 A2 :=
  ⟨h.wm.put c hc k' hv ho, h.kp.setG (.inl og), (Below.heap_setCell _ _ _ _ h1).trans h.x1, (Below.heap_setCell _ _ _ _ h2).trans h.x2⟩
theorem T2.last {own : Nat → Nat} {w wz : World} {g B1 B2 : Nat} {ws : Nat → Wt} {a0 a1 a2 a3 a4 a5 e0 e1 e2 e3 e4 e5 : Value} {A2 : Array Value} (h : T2 own w wz g B1 B2 ws #[a0, a1, a2, a3, a4, a5] A2) (hB : w.heap.size ≤ B1) (hg : B1 ≠ g) :
    WM ((((((wz.setCell ⟨B1, 0, none⟩ e0).setCell ⟨B1, 1, none⟩ e1).setCell ⟨B1, 2, none⟩ e2).setCell ⟨B1, 3, none⟩ e3).setCell ⟨B1, 4, none⟩ e4).setCell ⟨B1, 5, none⟩ e5) g ws ∧ KeptS own own (fun x => x = 3) w ((((((wz.setCell ⟨B1, 0, none⟩ e0).setCell ⟨B1, 1, none⟩ e1).setCell ⟨B1, 2, none⟩ e2).setCell ⟨B1, 3, none⟩ e3).setCell ⟨B1, 4, none⟩ e4).setCell ⟨B1, 5, none⟩ e5) ∧
    ((((((wz.setCell ⟨B1, 0, none⟩ e0).setCell ⟨B1, 1, none⟩ e1).setCell ⟨B1, 2, none⟩ e2).setCell ⟨B1, 3, none⟩ e3).setCell ⟨B1, 4, none⟩ e4).setCell ⟨B1, 5, none⟩ e5).heap[B1]? = some (.cells #[e0, e1, e2, e3, e4, e5] 63 (0, 0)) := by
  have hb : ∀ (u : World) (j : Nat) (v : Value), (u.setCell ⟨B1, j, none⟩ v).heap[g]? = u.heap[g]? := fun u j v => Below.heap_setCell _ _ _ _ (Ne.symm hg)
  refine ⟨h.wm.at ((hb _ _ _).trans ((hb _ _ _).trans ((hb _ _ _).trans ((hb _ _ _).trans ((hb _ _ _).trans (hb _ _ _)))))), (((((h.kp.setG (.inr hB)).setG (.inr hB)).setG (.inr hB)).setG (.inr hB)).setG (.inr hB)).setG (.inr hB), ?_⟩
  have h0 := heap_setCell_same wz B1 0 _ _ e0 h.x1
  have h1 := heap_setCell_same _ B1 1 _ _ e1 h0
  have h2 := heap_setCell_same _ B1 2 _ _ e2 h1
  have h3 := heap_setCell_same _ B1 3 _ _ e3 h2
  have h4 := heap_setCell_same _ B1 4 _ _ e4 h3
  have h5 := heap_setCell_same _ B1 5 _ _ e5 h4
  exact h5
set_option maxRecDepth 1000000 in
set_option maxHeartbeats 16000000 in
theorem told_round {own : Nat → Nat} {w wr : World} {g c m te i : Nat} {ws' : Nat → Wt} {ea sa : Option Addr} {ec sc : Nat} {st : List Stg} {vs : Nat → Value × Value} {raw : Nat → List (Int × Int)} {fr F : Nat → Bool} {L : List Cs} {es : List Ev} {k0 T lt lc : Int} (R : T1 own w wr g w.heap.size F st T m L es k0 i lt lc ws') (hlt : i < es.length) (og : own g = 3) (hl : ∀ k, own k ≠ 0 → k < w.heap.size) (S : SW (roW own w) (.slice sa st.length sc) st vs) (C : CalW (roW own w) c raw fr) (E : MRow own te w 63 6 (.slice ea es.length ec) es.length (evsCells es)) (hte : te ≠ 3)
    (hm : m < 200) (hraw : ∀ j, (raw j).length ≤ 1000) (hF : ∀ t : Int, 0 ≤ t → t < 100800 → openL raw fr t = F t.toNat) (_h6 : st.length ≤ 6) (hs : StOk st) (hT : T ≤ 100800) (hel : es.length ≤ 1000) (hk0 : 0 ≤ k0) (hk1 : k0 ≤ 1000000) (K : Act → World → Prop) (Q' : Exit → Act → World → Prop)
    {c3 c7 c8 c9 c10 c11 c12 c13 c14 c17 c18 c19 c20 c21 c22 c23 c24 c25 c26 c27 c28 c29 c30 c31 c32 c33 c34 c35 c36 c37 c38 c39 c40 c41 c42 c43 c44 c45 c46 c47 c48 c49 c50 c51 c52 c53 c54 c55 c56 c57 c58 c59 c60 c61 c62 c63 c64 c65 c66 c67 c68 c69 c70 c71 c72 c73 c74 c75 c76 c77 c78 c79 c80 c81 c82 c83 c84 c85 c86 c87 c88 c89 c90 c91 c92 c93 c94 c95 c96 c97 c98 c99 c100 c101 c102 c103 c104 c105 c106 c107 c108 c109 c110 c111 c112 c113 c114 c115 c116 c117 c118 c119 c120 c121 c122 c123 c124 c125 c126 c127 c128 c129 c130 c131 c132 c133 c134 c135 c136 c137 c138 c139 c140 c141 c142 c143 c144 c145 c146 c147 c148 c149 c150 c151 c152 c153 c154 c155 c156 c157 c158 c159 c160 c161 c162 c163 c164 c165 c166 c167 c168 c169 c170 c171 c172 c173 c174 c175 c176 c177 c178 c179 c180 c181 c182 c183 c184 c185 c186 c187 c188 c189 c190 c191 c192 c193 c194 c195 c196 c197 c198 c199 c200 c201 c202 c203 c204 c205 c206 c207 c208 c209 c210 c211 c212 c213 c214 c215 c216 c217 c218 c219 c220 c221 c222 c223 c224 c225 c226 c227 c228 c229 c230 c231 c232 c233 c234 c235 c236 c237 c238 c239 c240 c241 c242 c243 c244 c245 c246 c247 c248 c249 c250 c251 c252 c253 c254 c255 c256 c257 c258 c259 c260 c261 c262 c263 c264 c265 c266 c267 c268 c269 c270 c271 c272 c273 c274 : Value}
    (hend : ∀ (u14 u17 u18 u19 u20 u21 u22 u29 u30 u31 u32 u33 u34 u35 u36 u37 u38 u39 u40 u41 u42 u43 u44 u45 u46 u47 u48 u49 u50 u51 u52 u53 u54 u55 u56 u57 u58 u59 u60 u61 u62 u63 u64 u65 u66 u67 u68 u69 u70 u71 u72 u73 u74 u75 u76 u77 u78 u79 u80 u81 u82 u83 u84 u85 u86 u87 u88 u89 u90 u91 u92 u93 u94 u95 u96 u97 u98 u99 u100 u101 u102 u103 u104 u105 u106 u107 u108 u109 u110 u111 u112 u113 u114 u115 u116 u117 u118 u119 u120 u121 u122 u123 u124 u125 u126 u127 u128 u129 u130 u131 u132 u133 u134 u135 u136 u137 u138 u139 u140 u141 u142 u143 u144 u145 u146 u147 u148 u149 u150 u151 u152 u153 u154 u155 u156 u157 u158 u159 u160 u161 u162 u163 u164 u165 u166 u167 u168 u169 u170 u171 u172 u173 u174 u175 u176 u177 u178 u179 u180 u181 u182 u183 u184 u185 u186 u187 u188 u189 u190 u191 u192 u193 u194 u195 u196 u197 u198 u199 u200 u201 u202 u203 u204 u205 u206 u207 u208 u209 u210 u211 u212 u213 u214 u215 u216 u217 u218 u219 u220 u221 u222 u223 u224 u225 u226 u227 u228 u229 u230 u231 u232 u233 u234 u235 u236 v2 v16 : Value) (lt' lc' : Int) (ws2 : Nat → Wt) (wz : World), v2 = .int .i64 (k0 + ((i + 1 : Nat) : Int)) → v16 = .int .i64 ((i + 1 : Nat) : Int) → T1 own w wz g w.heap.size F st T m L es k0 (i + 1) lt' lc' ws2 → K ⟨List.toArray (.slice (some ⟨g, 0, none⟩) (m + 1) 200 :: .slice ea es.length ec :: v2 :: c3 :: .int .i64 T :: P0 c :: .slice sa st.length sc :: c7 :: c8 :: c9 :: c10 :: c11 :: c12 :: c13 :: u14 :: .pointer (some ⟨w.heap.size, 0, none⟩) :: v16 :: u17 :: u18 :: u19 :: u20 :: u21 :: u22 :: c23 :: c24 :: c25 :: c26 :: c27 :: c28 :: u29 :: u30 :: u31 :: u32 :: u33 :: u34 :: u35 :: u36 :: u37 :: u38 :: u39 :: u40 :: u41 :: u42 :: u43 :: u44 :: u45 :: u46 :: u47 :: u48 :: u49 :: u50 :: u51 :: u52 :: u53 :: u54 :: u55 :: u56 :: u57 :: u58 :: u59 :: u60 :: u61 :: u62 :: u63 :: u64 :: u65 :: u66 :: u67 :: u68 :: u69 :: u70 :: u71 :: u72 :: u73 :: u74 :: u75 :: u76 :: u77 :: u78 :: u79 :: u80 :: u81 :: u82 :: u83 :: u84 :: u85 :: u86 :: u87 :: u88 :: u89 :: u90 :: u91 :: u92 :: u93 :: u94 :: u95 :: u96 :: u97 :: u98 :: u99 :: u100 :: u101 :: u102 :: u103 :: u104 :: u105 :: u106 :: u107 :: u108 :: u109 :: u110 :: u111 :: u112 :: u113 :: u114 :: u115 :: u116 :: u117 :: u118 :: u119 :: u120 :: u121 :: u122 :: u123 :: u124 :: u125 :: u126 :: u127 :: u128 :: u129 :: u130 :: u131 :: u132 :: u133 :: u134 :: u135 :: u136 :: u137 :: u138 :: u139 :: u140 :: u141 :: u142 :: u143 :: u144 :: u145 :: u146 :: u147 :: u148 :: u149 :: u150 :: u151 :: u152 :: u153 :: u154 :: u155 :: u156 :: u157 :: u158 :: u159 :: u160 :: u161 :: u162 :: u163 :: u164 :: u165 :: u166 :: u167 :: u168 :: u169 :: u170 :: u171 :: u172 :: u173 :: u174 :: u175 :: u176 :: u177 :: u178 :: u179 :: u180 :: u181 :: u182 :: u183 :: u184 :: u185 :: u186 :: u187 :: u188 :: u189 :: u190 :: u191 :: u192 :: u193 :: u194 :: u195 :: u196 :: u197 :: u198 :: u199 :: u200 :: u201 :: u202 :: u203 :: u204 :: u205 :: u206 :: u207 :: u208 :: u209 :: u210 :: u211 :: u212 :: u213 :: u214 :: u215 :: u216 :: u217 :: u218 :: u219 :: u220 :: u221 :: u222 :: u223 :: u224 :: u225 :: u226 :: u227 :: u228 :: u229 :: u230 :: u231 :: u232 :: u233 :: u234 :: u235 :: u236 :: c237 :: c238 :: c239 :: c240 :: c241 :: c242 :: c243 :: c244 :: c245 :: c246 :: c247 :: c248 :: c249 :: c250 :: c251 :: c252 :: c253 :: c254 :: c255 :: c256 :: c257 :: c258 :: c259 :: c260 :: c261 :: c262 :: c263 :: c264 :: c265 :: c266 :: c267 :: c268 :: c269 :: c270 :: c271 :: c272 :: c273 :: c274 :: []), []⟩ wz) :
    Code.wp Tryz.prog ((Tryz.f24.body.bind firstLoop).getD .skip) (Exit.then K Q') ⟨List.toArray (.slice (some ⟨g, 0, none⟩) (m + 1) 200 :: .slice ea es.length ec :: .int .i64 (k0 + i) :: c3 :: .int .i64 T :: P0 c :: .slice sa st.length sc :: c7 :: c8 :: c9 :: c10 :: c11 :: c12 :: c13 :: c14 :: .pointer (some ⟨w.heap.size, 0, none⟩) :: .int .i64 i :: c17 :: c18 :: c19 :: c20 :: c21 :: c22 :: c23 :: c24 :: c25 :: c26 :: c27 :: c28 :: c29 :: c30 :: c31 :: c32 :: c33 :: c34 :: c35 :: c36 :: c37 :: c38 :: c39 :: c40 :: c41 :: c42 :: c43 :: c44 :: c45 :: c46 :: c47 :: c48 :: c49 :: c50 :: c51 :: c52 :: c53 :: c54 :: c55 :: c56 :: c57 :: c58 :: c59 :: c60 :: c61 :: c62 :: c63 :: c64 :: c65 :: c66 :: c67 :: c68 :: c69 :: c70 :: c71 :: c72 :: c73 :: c74 :: c75 :: c76 :: c77 :: c78 :: c79 :: c80 :: c81 :: c82 :: c83 :: c84 :: c85 :: c86 :: c87 :: c88 :: c89 :: c90 :: c91 :: c92 :: c93 :: c94 :: c95 :: c96 :: c97 :: c98 :: c99 :: c100 :: c101 :: c102 :: c103 :: c104 :: c105 :: c106 :: c107 :: c108 :: c109 :: c110 :: c111 :: c112 :: c113 :: c114 :: c115 :: c116 :: c117 :: c118 :: c119 :: c120 :: c121 :: c122 :: c123 :: c124 :: c125 :: c126 :: c127 :: c128 :: c129 :: c130 :: c131 :: c132 :: c133 :: c134 :: c135 :: c136 :: c137 :: c138 :: c139 :: c140 :: c141 :: c142 :: c143 :: c144 :: c145 :: c146 :: c147 :: c148 :: c149 :: c150 :: c151 :: c152 :: c153 :: c154 :: c155 :: c156 :: c157 :: c158 :: c159 :: c160 :: c161 :: c162 :: c163 :: c164 :: c165 :: c166 :: c167 :: c168 :: c169 :: c170 :: c171 :: c172 :: c173 :: c174 :: c175 :: c176 :: c177 :: c178 :: c179 :: c180 :: c181 :: c182 :: c183 :: c184 :: c185 :: c186 :: c187 :: c188 :: c189 :: c190 :: c191 :: c192 :: c193 :: c194 :: c195 :: c196 :: c197 :: c198 :: c199 :: c200 :: c201 :: c202 :: c203 :: c204 :: c205 :: c206 :: c207 :: c208 :: c209 :: c210 :: c211 :: c212 :: c213 :: c214 :: c215 :: c216 :: c217 :: c218 :: c219 :: c220 :: c221 :: c222 :: c223 :: c224 :: c225 :: c226 :: c227 :: c228 :: c229 :: c230 :: c231 :: c232 :: c233 :: c234 :: c235 :: c236 :: c237 :: c238 :: c239 :: c240 :: c241 :: c242 :: c243 :: c244 :: c245 :: c246 :: c247 :: c248 :: c249 :: c250 :: c251 :: c252 :: c253 :: c254 :: c255 :: c256 :: c257 :: c258 :: c259 :: c260 :: c261 :: c262 :: c263 :: c264 :: c265 :: c266 :: c267 :: c268 :: c269 :: c270 :: c271 :: c272 :: c273 :: c274 :: []), []⟩ wr := by
  conv => arg 2; whnf
  have HE := hide hend
  have HSC := hide (And.intro S (And.intro C E))
  have HR := hide (And.intro hraw hF)
  clear S C E hraw hF hend
  have hlt' : (i : Int) < es.length := by omega
  obtain ⟨l1, R1⟩ := R.ti
  rw [List.drop_eq_getElem_cons hlt] at R1
  obtain ⟨O, l2, R2⟩ := R1.next hs
  have E1 := HSC.out.2.2.kept R.kp hte
  obtain ⟨eq, ec2, h1⟩ := row_some E1.1 (by omega)
  simp only [Value.slice.injEq] at h1
  obtain ⟨rfl, _, rfl⟩ := h1
  have oe : own eq = te := E1.2 eq rfl
  have hne : eq ≠ g := fun e => by rw [e, og] at oe; exact hte oe.symm
  have ca : ∀ j (v : Value), j < 6 → (evCells es[i])[j]? = some v → wr.cell? ⟨eq, i * 6 + j, none⟩ = some v := fun j v hj hv => (E1.1.cellAt (i * 6 + j) (by omega)).trans ((evsCells_at es i hlt j hj).trans hv)
  have a0 : wr.cell? ⟨eq, i * 6, none⟩ = _ := ca 0 _ (by omega) rfl
  have a1 := ca 1 _ (by omega) rfl
  have a2 := ca 2 _ (by omega) rfl
  have a3 := ca 3 _ (by omega) rfl
  have a4 := ca 4 _ (by omega) rfl
  have a5 := ca 5 _ (by omega) rfl
  have hel' : eq < wr.heap.size := World.block_lt_of_cell? _ _ a0
  clear ca E1
  generalize es[i] = x at *
  obtain ⟨num, tm, cs, sg, le, wh⟩ := x
  have hnum := O.num
  have c0 := O.c0
  have c1 := O.c1
  have v0 := O.v0
  have v1 := O.v1
  have s0 := O.s0
  have s1 := O.s1
  simp only at hnum c0 c1 v0 v1 s0 s1
  subst hnum
  obtain ⟨ci, rfl⟩ : ∃ ci : Nat, cs = ci := ⟨cs.toNat, by omega⟩
  obtain ⟨si, rfl⟩ : ∃ si : Nat, sg = si := ⟨sg.toNat, by omega⟩
  obtain ⟨li, rfl⟩ : ∃ li : Nat, le = li := ⟨le.toNat, by omega⟩
  have tt0 := O.t0
  have tt1 := O.t1
  have tt2 := O.t2
  have tie := O.tie
  have o1 := O.there
  have o2 := O.held
  have o3 := O.on
  have o4 := O.stage
  have o5 := O.level
  have hwh := O.who
  have n0 := O.n0
  have n1 := O.n1
  have hgn := O.gone
  have hop := O.opn
  simp only [Int.toNat_natCast] at tt0 tt1 tt2 tie o1 o2 o3 o4 o5 hwh n0 n1 hgn hop R2
  have hc200 : ci < 200 := by omega
  have hsi : si < st.length := by omega
  have hli : li < (stAt st si).levels.length := by omega
  simp only at a0 a1 a2 a3 a4 a5
  -- the world behind e
  obtain ⟨b0, b3, b4, b5, hbx⟩ := R.bx
  have hwB : w.heap.size < wr.heap.size := (Array.getElem?_eq_some_iff.1 hbx).1
  have hbel : Below wr.heap.size wr (wr.alloc (Obj.cells #[.int .i64 (k0 + i + 1), .int .i64 tm, .int .i64 ci, .int .i64 si, .int .i64 li, .int .i64 wh] 63)) := (Below.refl _ _).alloc (Nat.le_refl _) _
  have M1 : WM (wr.alloc (Obj.cells #[.int .i64 (k0 + i + 1), .int .i64 tm, .int .i64 ci, .int .i64 si, .int .i64 li, .int .i64 wh] 63)) g ws' := R.wm.on hbel
  have K1 : KeptS own own (fun x => x = 3) w (wr.alloc (Obj.cells #[.int .i64 (k0 + i + 1), .int .i64 tm, .int .i64 ci, .int .i64 si, .int .i64 li, .int .i64 wh] 63)) := R.kp.trans (.of_below hbel R.kp.bound)
  have hx1 : (wr.alloc (Obj.cells #[.int .i64 (k0 + i + 1), .int .i64 tm, .int .i64 ci, .int .i64 si, .int .i64 li, .int .i64 wh] 63)).heap[w.heap.size]? = some (.cells #[.int .i64 b0, .int .i64 lt, .int .i64 lc, .int .i64 b3, .int .i64 b4, .int .i64 b5] 63 (0, 0)) := (hbel.block _ hwB).trans hbx
  have hx2 : (wr.alloc (Obj.cells #[.int .i64 (k0 + i + 1), .int .i64 tm, .int .i64 ci, .int .i64 si, .int .i64 li, .int .i64 wh] 63)).heap[wr.heap.size]? = some (.cells #[.int .i64 (k0 + i + 1), .int .i64 tm, .int .i64 ci, .int .i64 si, .int .i64 li, .int .i64 wh] 63 (0, 0)) := heap_alloc_new _ _
  have hw1 : wr.heap.size < (wr.alloc (Obj.cells #[.int .i64 (k0 + i + 1), .int .i64 tm, .int .i64 ci, .int .i64 si, .int .i64 li, .int .i64 wh] 63)).heap.size := by simp
  have q1 : (wr.alloc (Obj.cells #[.int .i64 (k0 + i + 1), .int .i64 tm, .int .i64 ci, .int .i64 si, .int .i64 li, .int .i64 wh] 63)).cell? ⟨w.heap.size, 1, none⟩ = some (.int .i64 lt) := by simp [World.cell?, hx1]
  have q2 : (wr.alloc (Obj.cells #[.int .i64 (k0 + i + 1), .int .i64 tm, .int .i64 ci, .int .i64 si, .int .i64 li, .int .i64 wh] 63)).cell? ⟨w.heap.size, 2, none⟩ = some (.int .i64 lc) := by simp [World.cell?, hx1]
  have p1 : wr.cell? ⟨w.heap.size, 1, none⟩ = some (.int .i64 lt) := by simp [World.cell?, hbx]
  have p2 : wr.cell? ⟨w.heap.size, 2, none⟩ = some (.int .i64 lc) := by simp [World.cell?, hbx]
  have HWH := hide hwh
  have HO := hide (And.intro o1 (And.intro o2 (And.intro o3 (And.intro o4 (And.intro o5 hgn)))))
  clear hwh o1 o2 o3 o4 o5 hgn
  have HW1 := hide (And.intro M1 (And.intro K1 (And.intro hx1 hx2)))
  have HR2 := hide R2
  clear R1 R2 O R M1 K1 hx1 hx2 hbel hbx
  have hx : (tm == lt) = false ∨ ((tm == lt) = true ∧ ¬ (0 : Int) < i) ∨ ((tm == lt) = true ∧ (0 : Int) < i ∧ lc < ci) := by
    by_cases e : tm = lt
    · by_cases e2 : (0 : Int) < i
      · exact .inr (.inr ⟨by simp [e], e2, tie e⟩)
      · exact .inr (.inl ⟨by simp [e], e2⟩)
    · exact .inl (by simp [e])
  clear tie
  have hk1' : k0 + i + 1 ≤ 2000000 := by omega
  have hc1' : (ci : Int) < (m : Int) + 1 := by omega
  go_upto_region 7 with fail
  go_cut [87] from 29 to 236 (fun s87 wc => s87 = .bool false ∧ wc = wr.alloc (Obj.cells #[.int .i64 (k0 + i + 1), .int .i64 tm, .int .i64 ci, .int .i64 si, .int .i64 li, .int .i64 wh] 63))
  case first =>
    rcases hx with g1 | ⟨g1, g2⟩ | ⟨g1, g2, g3⟩
    all_goals
      go_wp2_with fail
      go_meet
      case rel => exact ⟨by rw [Value.bool.injEq]; simp; omega, rfl⟩
  case rest =>
    obtain ⟨rfl, hwc⟩ := hcut
    rw [← hwc] at HW1 q1 q2 hw1
    clear hx p1 p2 a0 a1 a2 a3 a4 a5 hwc
    obtain ⟨M1, K1, x1, x2⟩ := HW1.out
    have S1 := HSC.out.1.keptR K1 (by decide)
    obtain ⟨sq, sc', la, lcp, SCi, os1, os2⟩ := S1.sc hsi
    have hsq : sq ≠ g := fun e => by rw [e, og] at os1; cases os1
    have hv := SCi.v
    simp only [Value.slice.injEq, true_and] at hv
    obtain ⟨rfl, rfl⟩ := hv
    have hli0 : 0 < (stAt st si).levels.length := by omega
    obtain ⟨lq, hla, hlc⟩ := SCi.l hli0
    have olq := os2 lq hla hli0
    have hlq : lq ≠ g := fun e => by rw [e, og] at olq; cases olq
    subst hla
    have e0 := SCi.c
    have e1 := (hlc li hli).2
    have hlt1 : (li : Int) < (stAt st si).levels.length := by omega
    have hsi' : (si : Int) < st.length := by omega
    rw [← HWH.out] at e1
    obtain ⟨o1, o2, o3, o4, o5, hgn⟩ := HO.out
    have d0 : wc.cell? ⟨g, ci * 7, none⟩ = some (.int .i64 (ws' ci).since) := M1.cell ci 0 hc200 (by omega)
    have d1 := M1.cell ci 1 hc200 (by omega)
    have d2 := M1.cell ci 2 hc200 (by omega)
    have d3 := M1.cell ci 3 hc200 (by omega)
    have d4 := M1.cell ci 4 hc200 (by omega)
    have d5 := M1.cell ci 5 hc200 (by omega)
    have d6 := M1.cell ci 6 hc200 (by omega)
    simp only [wtC] at d1 d2 d3 d4 d5 d6
    rw [o1] at d4
    rw [o2] at d6
    rw [o3] at d5
    rw [o4] at d2
    rw [o5] at d3
    have y1 : wc.cell? ⟨wr.heap.size, 1, none⟩ = some (.int .i64 tm) := by simp [World.cell?, x2]
    have y2 : wc.cell? ⟨wr.heap.size, 2, none⟩ = some (.int .i64 ci) := by simp [World.cell?, x2]
    have y3 : wc.cell? ⟨wr.heap.size, 3, none⟩ = some (.int .i64 si) := by simp [World.cell?, x2]
    have y4 : wc.cell? ⟨wr.heap.size, 4, none⟩ = some (.int .i64 li) := by simp [World.cell?, x2]
    have y5 : wc.cell? ⟨wr.heap.size, 5, none⟩ = some (.int .i64 wh) := by simp [World.cell?, x2]
    have HSI := hide (And.intro SCi (And.intro os2 hlc))
    clear M1 K1 x1 x2 S1 SCi os2 hlc o1 o2 o3 o4 o5 hgn
    go_wp2_with fail
    go_quiet (fail)
    have HT := hide ((show T2 own w wc g w.heap.size wr.heap.size (upd ws' ci (ws' ci)) _ _ from ⟨by rw [upd_self]; exact HW1.out.1, HW1.out.2.1, HW1.out.2.2.1, HW1.out.2.2.2⟩).on (below_drewN (Below.refl _ _) nq))
    have hgw : g < w.heap.size := hl g (by rw [og]; decide)
    have hg1 : w.heap.size ≠ g := by omega
    have hg2 : wr.heap.size ≠ g := by omega
    have hgn := HO.out.2.2.2.2.2
    clear d0 d1 d2 d3 d4 d5 d6 y1 y2 y3 y4 y5 e0 e1 q1 q2 hw1 HW1
    generalize wc.drewN nq = V at *
    have HTd := hide (HT.out.on ((Below.refl V.heap.size V).drew))
    have hcalT : ∀ z, Below V.drew.heap.size V.drew z → CalW z c raw fr := fun z hz => (HSC.out.2.1.keptR (HTd.out.on hz).kp (by decide)).unroP
    have HCL : Hid (∀ z, Below V.drew.heap.size V.drew z → z.cell? ⟨g, ci * 7, none⟩ = some (.int .i64 (ws' ci).since) ∧ z.cell? ⟨wr.heap.size, 1, none⟩ = some (.int .i64 tm)) := hide (fun z hz => by
      have h := HTd.out.on hz
      have h1 := h.wm.cell ci 0 hc200 (by omega)
      rw [upd_at] at h1
      exact ⟨h1, by simp [World.cell?, h.x2]⟩)
    have HBT := hide (between_any c raw fr F (ws' ci).since tm V.drew (hcalT _ (Below.refl _ _)) HR.out.1 HR.out.2 n0 n1 (by omega))
    obtain ⟨z0, z1⟩ := HCL.out V.drew (Below.refl _ _)
    have z0' : V.cell? ⟨g, ci * 7, none⟩ = some (.int .i64 (ws' ci).since) := z0
    have z1' : V.cell? ⟨wr.heap.size, 1, none⟩ = some (.int .i64 tm) := z1
    have HCA := hide hcalT
    clear hcalT z0 z1
    go_wp2_with fail
    go_region_held3 (fun z => z.cell? ⟨g, ci * 7, none⟩ = some (.int .i64 (ws' ci).since) ∧ z.cell? ⟨wr.heap.size, 1, none⟩ = some (.int .i64 tm)) ((go_keep; done)) (first | (go_at_call 22; refine HBT.out.mono ?_; rintro e V1 ⟨rfl, hb1⟩; obtain ⟨l0, l1⟩ := HCL.out V1 hb1))
    have HT1 := hide (HTd.out.on hb1)
    have HOP := hide (open_any c raw fr (tm - 1) V1 (HCA.out V1 hb1) (by omega) (by omega) HR.out.1)
    rw [HR.out.2 (tm - 1) (by omega) (by omega), hop] at HOP
    clear hb1 l0 z0' z1' HCL HBT HTd HT HCA
    have hw2 : IntKind.i64.wrap (tm - 1) = tm - 1 := IntWalk.i64_in _ (by omega)
    go_wp2_with fail
    refine HOP.out.mono ?_
    rintro e V2 ⟨rfl, hb2⟩
    have HT2 := hide (HT1.out.on hb2)
    clear HT1 HOP hb2 l1
    obtain ⟨lj, hlj⟩ : ∃ lj, lj = li + 1 := ⟨_, rfl⟩
    have hlj' : (li : Int) + 1 = lj := by omega
    have hl4 : (stAt st si).levels.length ≤ 4 := (hs si hsi).1
    have d0 : V2.cell? ⟨g, ci * 7, none⟩ = some (.int .i64 (ws' ci).since) := by have := HT2.out.wm.cell ci 0 hc200 (by omega); rwa [upd_at] at this
    have d1 : V2.cell? ⟨g, ci * 7 + 1, none⟩ = some (.int .i64 (cnt F tm.toNat - cnt F (ws' ci).since.toNat)) := by have := HT2.out.wm.cell ci 1 hc200 (by omega); rw [upd_at] at this; simp only [wtC] at this; rwa [hgn]
    have d3 : V2.cell? ⟨g, ci * 7 + 3, none⟩ = some (.int .i64 li) := by have := HT2.out.wm.cell ci 3 hc200 (by omega); rw [upd_at] at this; simp only [wtC] at this; rwa [HO.out.2.2.2.2.1] at this
    have f0 := HT2.out.wm.frz (ci * 7)
    have f3 := HT2.out.wm.frz (ci * 7 + 3)
    have y1 : V2.cell? ⟨wr.heap.size, 1, none⟩ = some (.int .i64 tm) := by simp [World.cell?, HT2.out.x2]
    generalize cnt F tm.toNat - cnt F (ws' ci).since.toNat = gn at *
    have hli5 : (li : Int) < 4 := by omega
    have hwl : IntKind.i64.wrap ((li : Int) + 1) = li + 1 := IntWalk.i64_in _ (by omega)
    have HLJ := hide hlj'
    clear hlj'
    go_upto_region 18 with fail
    -- the level, the time
    have HT3 := hide (show T2 own w ((V2.setCell ⟨g, ci * 7 + 3, none⟩ (.int .i64 ((li : Int) + 1))).setCell ⟨g, ci * 7, none⟩ (.int .i64 tm)) g w.heap.size wr.heap.size (upd ws' ci ⟨tm, (ws' ci).togo, (ws' ci).stage, (li : Int) + 1, (ws' ci).there, (ws' ci).on, (ws' ci).held⟩) _ _ from
      (HT2.out.put og hg1 hg2 3 (by omega) ⟨(ws' ci).since, (ws' ci).togo, (ws' ci).stage, (li : Int) + 1, (ws' ci).there, (ws' ci).on, (ws' ci).held⟩ (v := .int .i64 ((li : Int) + 1)) rfl (fun c' h1 h2 => by rcases c' with _ | _ | _ | _ | _ | _ | _ | c' <;> first | rfl | omega)).put og hg1 hg2 0 (by omega) ⟨tm, (ws' ci).togo, (ws' ci).stage, (li : Int) + 1, (ws' ci).there, (ws' ci).on, (ws' ci).held⟩ (v := .int .i64 tm) rfl (fun c' h1 h2 => by rcases c' with _ | _ | _ | _ | _ | _ | _ | c' <;> first | rfl | omega))
    clear d0 d1 d3 f0 f3 y1 HT2
    generalize (V2.setCell ⟨g, ci * 7 + 3, none⟩ (.int .i64 ((li : Int) + 1))).setCell ⟨g, ci * 7, none⟩ (.int .i64 tm) = V3 at *
    have S3 := HSC.out.1.keptR HT3.out.kp (by decide)
    obtain ⟨sq2, sc2, la2, lc2, SCj, osq, osl⟩ := S3.sc hsi
    have hv := SCj.v
    simp only [Value.slice.injEq, Option.some.injEq, Addr.mk.injEq, and_true, true_and] at hv
    obtain ⟨rfl, rfl⟩ := hv
    obtain ⟨lq2, hla2, hlc2⟩ := SCj.l hli0
    have olq2 := osl lq2 hla2 hli0
    have hlq2 : lq2 ≠ g := fun e => by rw [e, og] at olq2; cases olq2
    subst hla2
    have r0 := SCj.c
    have r2 : V3.cell? ⟨g, ci * 7 + 2, none⟩ = some (.int .i64 si) := by have := HT3.out.wm.cell ci 2 hc200 (by omega); rw [upd_at] at this; simp only [wtC] at this; rwa [HO.out.2.2.2.1] at this
    have r3 : V3.cell? ⟨g, ci * 7 + 3, none⟩ = some (.int .i64 lj) := by have := HT3.out.wm.cell ci 3 hc200 (by omega); rw [upd_at] at this; simp only [wtC] at this; rwa [HLJ.out] at this
    have r5 : V3.cell? ⟨g, ci * 7 + 5, none⟩ = some (.bool true) := by have := HT3.out.wm.cell ci 5 hc200 (by omega); rw [upd_at] at this; simp only [wtC] at this; rwa [HO.out.2.2.1] at this
    have f5 := HT3.out.wm.frz (ci * 7 + 5)
    have f1 := HT3.out.wm.frz (ci * 7 + 1)
    have HSJ := hide (And.intro SCj (And.intro osl hlc2))
    clear S3 SCj osl hlc2
    have HK : Hid (∀ b : Bool, T2 own w ((V3.setCell ⟨g, ci * 7 + 5, none⟩ (.bool b)).drew) g w.heap.size wr.heap.size (upd ws' ci ⟨tm, (ws' ci).togo, (ws' ci).stage, (li : Int) + 1, (ws' ci).there, b, (ws' ci).held⟩) _ _) := hide (fun b => (HT3.out.put og hg1 hg2 5 (by omega) ⟨tm, (ws' ci).togo, (ws' ci).stage, (li : Int) + 1, (ws' ci).there, b, (ws' ci).held⟩ (v := .bool b) rfl (fun c' h1 h2 => by rcases c' with _ | _ | _ | _ | _ | _ | _ | c' <;> first | rfl | omega)).on ((Below.refl _ _).drew))
    have HKS : Hid (∀ b : Bool, (V3.setCell ⟨g, ci * 7 + 5, none⟩ (.bool b)).drew.cell? ⟨g, ci * 7 + 2, none⟩ = some (.int .i64 si) ∧ (V3.setCell ⟨g, ci * 7 + 5, none⟩ (.bool b)).drew.cell? ⟨g, ci * 7 + 3, none⟩ = some (.int .i64 lj) ∧ (V3.setCell ⟨g, ci * 7 + 5, none⟩ (.bool b)).drew.cell? ⟨sq, si * 2, none⟩ = some (.slice (some ⟨lq2, 0, none⟩) (stAt st si).levels.length lc2) ∧ (V3.setCell ⟨g, ci * 7 + 5, none⟩ (.bool b)).drew.frozen? ⟨g, ci * 7 + 5, none⟩ = false) := hide (fun b => by
      have h := (HK.out b).wm
      have h2 := h.cell ci 2 hc200 (by omega)
      have h3 := h.cell ci 3 hc200 (by omega)
      rw [upd_at] at h2 h3
      simp only [wtC] at h2 h3
      rw [HO.out.2.2.2.1] at h2
      rw [HLJ.out] at h3
      exact ⟨h2, h3, (World.cell?_of_block (a := ⟨sq, si * 2, none⟩) (show (V3.setCell ⟨g, ci * 7 + 5, none⟩ (.bool b)).drew.heap[sq]? = V3.heap[sq]? from Below.heap_setCell _ _ _ _ hsq)).trans r0, h.frz _⟩)
    have HTE : Hid (∀ b : Bool, (b = false → tellW st (ws' ci) tm = ⟨tm, (ws' ci).togo, (ws' ci).stage, (li : Int) + 1, (ws' ci).there, b, (ws' ci).held⟩ ∨ (lj : Int) < (stAt st si).levels.length) ∧ (b = true → tellW st (ws' ci) tm = ⟨tm, (lvAt (stAt st si) lj).1, (ws' ci).stage, (li : Int) + 1, (ws' ci).there, b, (ws' ci).held⟩ ∨ ¬ (lj : Int) < (stAt st si).levels.length)) := hide (fun b => by
      unfold tellW
      rw [HO.out.2.2.2.1, HO.out.2.2.2.2.1, HLJ.out]
      refine ⟨fun e => ?_, fun e => ?_⟩
      · subst e
        by_cases h : (lj : Int) < (stAt st si).levels.length
        · exact .inr h
        · left; rw [if_neg h]; simp [h]
      · subst e
        by_cases h : (lj : Int) < (stAt st si).levels.length
        · left; rw [if_pos h]; simp [h]
        · exact .inr h)
    clear hlj
    by_cases hnx : (lj : Int) < (stAt st si).levels.length
    · go_region_held3 (fun z => z.cell? ⟨g, ci * 7 + 2, none⟩ = some (.int .i64 si) ∧ z.cell? ⟨g, ci * 7 + 3, none⟩ = some (.int .i64 lj) ∧ z.cell? ⟨sq, si * 2, none⟩ = some (.slice (some ⟨lq2, 0, none⟩) (stAt st si).levels.length lc2) ∧ z.frozen? ⟨g, ci * 7 + 5, none⟩ = false) (first | exact HKS.out _ | (go_keep; done)) (first | fail)
      have hte2 := ((HTE.out true).2 rfl).resolve_right (fun h => h hnx)
      have HT3b := hide (HK.out true)
      obtain ⟨dl, hdl⟩ : ∃ dl, dl = (lvAt (stAt st si) lj).1 := ⟨_, rfl⟩
      rw [← hdl] at hte2
      have u1 := (HSJ.out.2.2 lj (by omega)).1
      rw [← hdl] at u1
      have u0 := (HKS.out true).1
      have u3 := (HKS.out true).2.1
      have u4 := (HKS.out true).2.2.1
      have u5 : (V3.setCell ⟨g, ci * 7 + 5, none⟩ (.bool true)).drew.cell? ⟨g, ci * 7 + 5, none⟩ = some (.bool true) := by have := (HK.out true).wm.cell ci 5 hc200 (by omega); rw [upd_at] at this; exact this
      have u6 : (V3.setCell ⟨g, ci * 7 + 5, none⟩ (.bool true)).drew.cell? ⟨lq2, lj * 2, none⟩ = some (.int .i64 dl) := (World.cell?_of_block (a := ⟨lq2, lj * 2, none⟩) (show (V3.setCell ⟨g, ci * 7 + 5, none⟩ (.bool true)).drew.heap[lq2]? = V3.heap[lq2]? from Below.heap_setCell _ _ _ _ hlq2)).trans u1
      have u7 : (V3.setCell ⟨g, ci * 7 + 5, none⟩ (.bool true)).drew.cell? ⟨g, ci * 7 + 1, none⟩ = some (.int .i64 (ws' ci).togo) := by have := (HK.out true).wm.cell ci 1 hc200 (by omega); rw [upd_at] at this; exact this
      have u8 := (HK.out true).wm.frz (ci * 7 + 1)
      clear HK HKS u1 r0 r2 r3 r5 f5 f1 HT3 HTE hdl
      generalize (V3.setCell ⟨g, ci * 7 + 5, none⟩ (.bool true)).drew = V4 at *
      have HT4 := hide ((HT3b.out.put og hg1 hg2 1 (by omega) ⟨tm, dl, (ws' ci).stage, (li : Int) + 1, (ws' ci).there, true, (ws' ci).held⟩ (v := .int .i64 dl) rfl (fun c' h1 h2 => by rcases c' with _ | _ | _ | _ | _ | _ | _ | c' <;> first | rfl | omega)).on ((Below.refl _ _).drew))
      have HKS : Hid ((V4.setCell ⟨g, ci * 7 + 1, none⟩ (.int .i64 dl)).drew.cell? ⟨g, ci * 7 + 2, none⟩ = some (.int .i64 si) ∧ (V4.setCell ⟨g, ci * 7 + 1, none⟩ (.int .i64 dl)).drew.cell? ⟨g, ci * 7 + 3, none⟩ = some (.int .i64 lj) ∧ (V4.setCell ⟨g, ci * 7 + 1, none⟩ (.int .i64 dl)).drew.cell? ⟨sq, si * 2, none⟩ = some (.slice (some ⟨lq2, 0, none⟩) (stAt st si).levels.length lc2) ∧ (V4.setCell ⟨g, ci * 7 + 1, none⟩ (.int .i64 dl)).drew.cell? ⟨lq2, lj * 2, none⟩ = some (.int .i64 dl) ∧ (V4.setCell ⟨g, ci * 7 + 1, none⟩ (.int .i64 dl)).drew.frozen? ⟨g, ci * 7 + 1, none⟩ = false) := hide (by
        have h := HT4.out.wm
        have h2 := h.cell ci 2 hc200 (by omega)
        have h3 := h.cell ci 3 hc200 (by omega)
        rw [upd_at] at h2 h3
        simp only [wtC] at h2 h3
        rw [HO.out.2.2.2.1] at h2
        rw [HLJ.out] at h3
        exact ⟨h2, h3, (World.cell?_of_block (a := ⟨sq, si * 2, none⟩) (show (V4.setCell ⟨g, ci * 7 + 1, none⟩ (.int .i64 dl)).drew.heap[sq]? = V4.heap[sq]? from Below.heap_setCell _ _ _ _ hsq)).trans u4, (World.cell?_of_block (a := ⟨lq2, lj * 2, none⟩) (show (V4.setCell ⟨g, ci * 7 + 1, none⟩ (.int .i64 dl)).drew.heap[lq2]? = V4.heap[lq2]? from Below.heap_setCell _ _ _ _ hlq2)).trans u6, h.frz _⟩)
      go_wp2_with fail
      go_region_held3 (fun z => z.cell? ⟨g, ci * 7 + 2, none⟩ = some (.int .i64 si) ∧ z.cell? ⟨g, ci * 7 + 3, none⟩ = some (.int .i64 lj) ∧ z.cell? ⟨sq, si * 2, none⟩ = some (.slice (some ⟨lq2, 0, none⟩) (stAt st si).levels.length lc2) ∧ z.cell? ⟨lq2, lj * 2, none⟩ = some (.int .i64 dl) ∧ z.frozen? ⟨g, ci * 7 + 1, none⟩ = false) (first | exact HKS.out | (go_keep; done)) (first | fail)
      clear HKS u0 u3 u4 u5 u6 u7 u8 HT3b
      generalize (V4.setCell ⟨g, ci * 7 + 1, none⟩ (.int .i64 dl)).drew = V5 at *
      have w0 : V5.cell? ⟨w.heap.size, 0, none⟩ = some (.int .i64 b0) := by simp [World.cell?, HT4.out.x1]
      have w1 : V5.cell? ⟨w.heap.size, 1, none⟩ = some (.int .i64 lt) := by simp [World.cell?, HT4.out.x1]
      have w2 : V5.cell? ⟨w.heap.size, 2, none⟩ = some (.int .i64 lc) := by simp [World.cell?, HT4.out.x1]
      have w3 : V5.cell? ⟨w.heap.size, 3, none⟩ = some (.int .i64 b3) := by simp [World.cell?, HT4.out.x1]
      have w4 : V5.cell? ⟨w.heap.size, 4, none⟩ = some (.int .i64 b4) := by simp [World.cell?, HT4.out.x1]
      have w5 : V5.cell? ⟨w.heap.size, 5, none⟩ = some (.int .i64 b5) := by simp [World.cell?, HT4.out.x1]
      have v0 : V5.cell? ⟨wr.heap.size, 0, none⟩ = some (.int .i64 (k0 + i + 1)) := by simp [World.cell?, HT4.out.x2]
      have v1 : V5.cell? ⟨wr.heap.size, 1, none⟩ = some (.int .i64 tm) := by simp [World.cell?, HT4.out.x2]
      have v2 : V5.cell? ⟨wr.heap.size, 2, none⟩ = some (.int .i64 ci) := by simp [World.cell?, HT4.out.x2]
      have v3 : V5.cell? ⟨wr.heap.size, 3, none⟩ = some (.int .i64 si) := by simp [World.cell?, HT4.out.x2]
      have v4 : V5.cell? ⟨wr.heap.size, 4, none⟩ = some (.int .i64 li) := by simp [World.cell?, HT4.out.x2]
      have v5 : V5.cell? ⟨wr.heap.size, 5, none⟩ = some (.int .i64 wh) := by simp [World.cell?, HT4.out.x2]
      have ff : ∀ j, V5.frozen? ⟨w.heap.size, j, none⟩ = false := fun j => by simp [World.frozen?, HT4.out.x1]
      have g0 := ff 0
      have g1 := ff 1
      have g2 := ff 2
      have g3 := ff 3
      have g4 := ff 4
      have g5 := ff 5
      clear ff
      go_wp2_with fail
      obtain ⟨t1, t2, t3⟩ := HT4.out.last (e0 := .int .i64 (k0 + i + 1)) (e1 := .int .i64 tm) (e2 := .int .i64 ci) (e3 := .int .i64 si) (e4 := .int .i64 li) (e5 := .int .i64 wh) (Nat.le_refl _) hg1
      have hti := HR2.out
      rw [hte2, show k0 + (i : Int) + 1 = k0 + ((i + 1 : Nat) : Int) by omega] at hti
      refine HE.out _ _ _ _ _ _ _ _ _ _ _ _ _ _ _ _ _ _ _ _ _ _ _ _ _ _ _ _ _ _ _ _ _ _ _ _ _ _ _ _ _ _ _ _ _ _ _ _ _ _ _ _ _ _ _ _ _ _ _ _ _ _ _ _ _ _ _ _ _ _ _ _ _ _ _ _ _ _ _ _ _ _ _ _ _ _ _ _ _ _ _ _ _ _ _ _ _ _ _ _ _ _ _ _ _ _ _ _ _ _ _ _ _ _ _ _ _ _ _ _ _ _ _ _ _ _ _ _ _ _ _ _ _ _ _ _ _ _ _ _ _ _ _ _ _ _ _ _ _ _ _ _ _ _ _ _ _ _ _ _ _ _ _ _ _ _ _ _ _ _ _ _ _ _ _ _ _ _ _ _ _ _ _ _ _ _ _ _ _ _ _ _ _ _ _ _ _ _ _ _ _ _ _ _ _ _ _ _ _ _ _ _ _ _ _ _ _ tm ci _ _ ?_ ?_ ⟨⟨l2, hti⟩, t1, t2, _, _, _, _, t3⟩
      · rw [show k0 + (i : Int) + 1 = k0 + ((i + 1 : Nat) : Int) by omega]
      · go_num
    · go_region_held3 (fun z => z.cell? ⟨g, ci * 7 + 2, none⟩ = some (.int .i64 si) ∧ z.cell? ⟨g, ci * 7 + 3, none⟩ = some (.int .i64 lj) ∧ z.cell? ⟨sq, si * 2, none⟩ = some (.slice (some ⟨lq2, 0, none⟩) (stAt st si).levels.length lc2) ∧ z.frozen? ⟨g, ci * 7 + 5, none⟩ = false) (first | exact HKS.out _ | (go_keep; done)) (first | fail)
      have hte2 := ((HTE.out false).1 rfl).resolve_right hnx
      have HT4 := hide (HK.out false)
      have u5 : (V3.setCell ⟨g, ci * 7 + 5, none⟩ (.bool false)).drew.cell? ⟨g, ci * 7 + 5, none⟩ = some (.bool false) := by have := (HK.out false).wm.cell ci 5 hc200 (by omega); rw [upd_at] at this; exact this
      clear HK HKS r0 r2 r3 r5 f5 f1 HT3 HTE
      generalize (V3.setCell ⟨g, ci * 7 + 5, none⟩ (.bool false)).drew = V5 at *
      have w0 : V5.cell? ⟨w.heap.size, 0, none⟩ = some (.int .i64 b0) := by simp [World.cell?, HT4.out.x1]
      have w1 : V5.cell? ⟨w.heap.size, 1, none⟩ = some (.int .i64 lt) := by simp [World.cell?, HT4.out.x1]
      have w2 : V5.cell? ⟨w.heap.size, 2, none⟩ = some (.int .i64 lc) := by simp [World.cell?, HT4.out.x1]
      have w3 : V5.cell? ⟨w.heap.size, 3, none⟩ = some (.int .i64 b3) := by simp [World.cell?, HT4.out.x1]
      have w4 : V5.cell? ⟨w.heap.size, 4, none⟩ = some (.int .i64 b4) := by simp [World.cell?, HT4.out.x1]
      have w5 : V5.cell? ⟨w.heap.size, 5, none⟩ = some (.int .i64 b5) := by simp [World.cell?, HT4.out.x1]
      have v0 : V5.cell? ⟨wr.heap.size, 0, none⟩ = some (.int .i64 (k0 + i + 1)) := by simp [World.cell?, HT4.out.x2]
      have v1 : V5.cell? ⟨wr.heap.size, 1, none⟩ = some (.int .i64 tm) := by simp [World.cell?, HT4.out.x2]
      have v2 : V5.cell? ⟨wr.heap.size, 2, none⟩ = some (.int .i64 ci) := by simp [World.cell?, HT4.out.x2]
      have v3 : V5.cell? ⟨wr.heap.size, 3, none⟩ = some (.int .i64 si) := by simp [World.cell?, HT4.out.x2]
      have v4 : V5.cell? ⟨wr.heap.size, 4, none⟩ = some (.int .i64 li) := by simp [World.cell?, HT4.out.x2]
      have v5 : V5.cell? ⟨wr.heap.size, 5, none⟩ = some (.int .i64 wh) := by simp [World.cell?, HT4.out.x2]
      have ff : ∀ j, V5.frozen? ⟨w.heap.size, j, none⟩ = false := fun j => by simp [World.frozen?, HT4.out.x1]
      have g0 := ff 0
      have g1 := ff 1
      have g2 := ff 2
      have g3 := ff 3
      have g4 := ff 4
      have g5 := ff 5
      clear ff
      go_wp2_with fail
      obtain ⟨t1, t2, t3⟩ := HT4.out.last (e0 := .int .i64 (k0 + i + 1)) (e1 := .int .i64 tm) (e2 := .int .i64 ci) (e3 := .int .i64 si) (e4 := .int .i64 li) (e5 := .int .i64 wh) (Nat.le_refl _) hg1
      have hti := HR2.out
      rw [hte2, show k0 + (i : Int) + 1 = k0 + ((i + 1 : Nat) : Int) by omega] at hti
      refine HE.out _ _ _ _ _ _ _ _ _ _ _ _ _ _ _ _ _ _ _ _ _ _ _ _ _ _ _ _ _ _ _ _ _ _ _ _ _ _ _ _ _ _ _ _ _ _ _ _ _ _ _ _ _ _ _ _ _ _ _ _ _ _ _ _ _ _ _ _ _ _ _ _ _ _ _ _ _ _ _ _ _ _ _ _ _ _ _ _ _ _ _ _ _ _ _ _ _ _ _ _ _ _ _ _ _ _ _ _ _ _ _ _ _ _ _ _ _ _ _ _ _ _ _ _ _ _ _ _ _ _ _ _ _ _ _ _ _ _ _ _ _ _ _ _ _ _ _ _ _ _ _ _ _ _ _ _ _ _ _ _ _ _ _ _ _ _ _ _ _ _ _ _ _ _ _ _ _ _ _ _ _ _ _ _ _ _ _ _ _ _ _ _ _ _ _ _ _ _ _ _ _ _ _ _ _ _ _ _ _ _ _ _ _ _ _ _ _ tm ci _ _ ?_ ?_ ⟨⟨l2, hti⟩, t1, t2, _, _, _, _, t3⟩
      · rw [show k0 + (i : Int) + 1 = k0 + ((i + 1 : Nat) : Int) by omega]
      · go_num
set_option maxRecDepth 1000000 in
set_option maxHeartbeats 16000000 in
theorem told_loop {own : Nat → Nat} {w W : World} {g c m te : Nat} {ws : Nat → Wt} {ea sa : Option Addr} {ec sc : Nat} {st : List Stg} {vs : Nat → Value × Value} {raw : Nat → List (Int × Int)} {fr F : Nat → Bool} {L : List Cs} {es : List Ev} {k0 t0 T : Int} (T0 : T1 own w W g w.heap.size F st T m L es k0 0 t0 0 ws) (og : own g = 3) (hl : ∀ k, own k ≠ 0 → k < w.heap.size) (S : SW (roW own w) (.slice sa st.length sc) st vs) (C : CalW (roW own w) c raw fr) (E : MRow own te w 63 6 (.slice ea es.length ec) es.length (evsCells es)) (hte : te ≠ 3)
    (hm : m < 200) (hraw : ∀ j, (raw j).length ≤ 1000) (hF : ∀ t : Int, 0 ≤ t → t < 100800 → openL raw fr t = F t.toNat) (h6 : st.length ≤ 6) (hs : StOk st) (hT : T ≤ 100800) (hel : es.length ≤ 1000) (hk0 : 0 ≤ k0) (hk1 : k0 ≤ 1000000) (Q0 : Exit → Act → World → Prop)
    {c3 c7 c8 c9 c10 c11 c12 c13 c14 c17 c18 c19 c20 c21 c22 c23 c24 c25 c26 c27 c28 c29 c30 c31 c32 c33 c34 c35 c36 c37 c38 c39 c40 c41 c42 c43 c44 c45 c46 c47 c48 c49 c50 c51 c52 c53 c54 c55 c56 c57 c58 c59 c60 c61 c62 c63 c64 c65 c66 c67 c68 c69 c70 c71 c72 c73 c74 c75 c76 c77 c78 c79 c80 c81 c82 c83 c84 c85 c86 c87 c88 c89 c90 c91 c92 c93 c94 c95 c96 c97 c98 c99 c100 c101 c102 c103 c104 c105 c106 c107 c108 c109 c110 c111 c112 c113 c114 c115 c116 c117 c118 c119 c120 c121 c122 c123 c124 c125 c126 c127 c128 c129 c130 c131 c132 c133 c134 c135 c136 c137 c138 c139 c140 c141 c142 c143 c144 c145 c146 c147 c148 c149 c150 c151 c152 c153 c154 c155 c156 c157 c158 c159 c160 c161 c162 c163 c164 c165 c166 c167 c168 c169 c170 c171 c172 c173 c174 c175 c176 c177 c178 c179 c180 c181 c182 c183 c184 c185 c186 c187 c188 c189 c190 c191 c192 c193 c194 c195 c196 c197 c198 c199 c200 c201 c202 c203 c204 c205 c206 c207 c208 c209 c210 c211 c212 c213 c214 c215 c216 c217 c218 c219 c220 c221 c222 c223 c224 c225 c226 c227 c228 c229 c230 c231 c232 c233 c234 c235 c236 c237 c238 c239 c240 c241 c242 c243 c244 c245 c246 c247 c248 c249 c250 c251 c252 c253 c254 c255 c256 c257 c258 c259 c260 c261 c262 c263 c264 c265 c266 c267 c268 c269 c270 c271 c272 c273 c274 : Value}
    (hexit : ∀ (u2 u14 u16 u17 u18 u19 u20 u21 u22 u29 u30 u31 u32 u33 u34 u35 u36 u37 u38 u39 u40 u41 u42 u43 u44 u45 u46 u47 u48 u49 u50 u51 u52 u53 u54 u55 u56 u57 u58 u59 u60 u61 u62 u63 u64 u65 u66 u67 u68 u69 u70 u71 u72 u73 u74 u75 u76 u77 u78 u79 u80 u81 u82 u83 u84 u85 u86 u87 u88 u89 u90 u91 u92 u93 u94 u95 u96 u97 u98 u99 u100 u101 u102 u103 u104 u105 u106 u107 u108 u109 u110 u111 u112 u113 u114 u115 u116 u117 u118 u119 u120 u121 u122 u123 u124 u125 u126 u127 u128 u129 u130 u131 u132 u133 u134 u135 u136 u137 u138 u139 u140 u141 u142 u143 u144 u145 u146 u147 u148 u149 u150 u151 u152 u153 u154 u155 u156 u157 u158 u159 u160 u161 u162 u163 u164 u165 u166 u167 u168 u169 u170 u171 u172 u173 u174 u175 u176 u177 u178 u179 u180 u181 u182 u183 u184 u185 u186 u187 u188 u189 u190 u191 u192 u193 u194 u195 u196 u197 u198 u199 u200 u201 u202 u203 u204 u205 u206 u207 u208 u209 u210 u211 u212 u213 u214 u215 u216 u217 u218 u219 u220 u221 u222 u223 u224 u225 u226 u227 u228 u229 u230 u231 u232 u233 u234 u235 u236 : Value) (lt lc : Int) (ws' : Nat → Wt) (wx : World), T1 own w wx g w.heap.size F st T m L es k0 es.length lt lc ws' → Q0 (.exit 0) ⟨List.toArray (.slice (some ⟨g, 0, none⟩) (m + 1) 200 :: .slice ea es.length ec :: u2 :: c3 :: .int .i64 T :: P0 c :: .slice sa st.length sc :: c7 :: c8 :: c9 :: c10 :: c11 :: c12 :: c13 :: u14 :: .pointer (some ⟨w.heap.size, 0, none⟩) :: u16 :: u17 :: u18 :: u19 :: u20 :: u21 :: u22 :: c23 :: c24 :: c25 :: c26 :: c27 :: c28 :: u29 :: u30 :: u31 :: u32 :: u33 :: u34 :: u35 :: u36 :: u37 :: u38 :: u39 :: u40 :: u41 :: u42 :: u43 :: u44 :: u45 :: u46 :: u47 :: u48 :: u49 :: u50 :: u51 :: u52 :: u53 :: u54 :: u55 :: u56 :: u57 :: u58 :: u59 :: u60 :: u61 :: u62 :: u63 :: u64 :: u65 :: u66 :: u67 :: u68 :: u69 :: u70 :: u71 :: u72 :: u73 :: u74 :: u75 :: u76 :: u77 :: u78 :: u79 :: u80 :: u81 :: u82 :: u83 :: u84 :: u85 :: u86 :: u87 :: u88 :: u89 :: u90 :: u91 :: u92 :: u93 :: u94 :: u95 :: u96 :: u97 :: u98 :: u99 :: u100 :: u101 :: u102 :: u103 :: u104 :: u105 :: u106 :: u107 :: u108 :: u109 :: u110 :: u111 :: u112 :: u113 :: u114 :: u115 :: u116 :: u117 :: u118 :: u119 :: u120 :: u121 :: u122 :: u123 :: u124 :: u125 :: u126 :: u127 :: u128 :: u129 :: u130 :: u131 :: u132 :: u133 :: u134 :: u135 :: u136 :: u137 :: u138 :: u139 :: u140 :: u141 :: u142 :: u143 :: u144 :: u145 :: u146 :: u147 :: u148 :: u149 :: u150 :: u151 :: u152 :: u153 :: u154 :: u155 :: u156 :: u157 :: u158 :: u159 :: u160 :: u161 :: u162 :: u163 :: u164 :: u165 :: u166 :: u167 :: u168 :: u169 :: u170 :: u171 :: u172 :: u173 :: u174 :: u175 :: u176 :: u177 :: u178 :: u179 :: u180 :: u181 :: u182 :: u183 :: u184 :: u185 :: u186 :: u187 :: u188 :: u189 :: u190 :: u191 :: u192 :: u193 :: u194 :: u195 :: u196 :: u197 :: u198 :: u199 :: u200 :: u201 :: u202 :: u203 :: u204 :: u205 :: u206 :: u207 :: u208 :: u209 :: u210 :: u211 :: u212 :: u213 :: u214 :: u215 :: u216 :: u217 :: u218 :: u219 :: u220 :: u221 :: u222 :: u223 :: u224 :: u225 :: u226 :: u227 :: u228 :: u229 :: u230 :: u231 :: u232 :: u233 :: u234 :: u235 :: u236 :: c237 :: c238 :: c239 :: c240 :: c241 :: c242 :: c243 :: c244 :: c245 :: c246 :: c247 :: c248 :: c249 :: c250 :: c251 :: c252 :: c253 :: c254 :: c255 :: c256 :: c257 :: c258 :: c259 :: c260 :: c261 :: c262 :: c263 :: c264 :: c265 :: c266 :: c267 :: c268 :: c269 :: c270 :: c271 :: c272 :: c273 :: c274 :: []), []⟩ wx) :
    Code.wp Tryz.prog (Code.loop ((Tryz.f24.body.bind firstLoop).getD .skip)) Q0 ⟨List.toArray (.slice (some ⟨g, 0, none⟩) (m + 1) 200 :: .slice ea es.length ec :: .int .i64 k0 :: c3 :: .int .i64 T :: P0 c :: .slice sa st.length sc :: c7 :: c8 :: c9 :: c10 :: c11 :: c12 :: c13 :: c14 :: .pointer (some ⟨w.heap.size, 0, none⟩) :: .int .i64 0 :: c17 :: c18 :: c19 :: c20 :: c21 :: c22 :: c23 :: c24 :: c25 :: c26 :: c27 :: c28 :: c29 :: c30 :: c31 :: c32 :: c33 :: c34 :: c35 :: c36 :: c37 :: c38 :: c39 :: c40 :: c41 :: c42 :: c43 :: c44 :: c45 :: c46 :: c47 :: c48 :: c49 :: c50 :: c51 :: c52 :: c53 :: c54 :: c55 :: c56 :: c57 :: c58 :: c59 :: c60 :: c61 :: c62 :: c63 :: c64 :: c65 :: c66 :: c67 :: c68 :: c69 :: c70 :: c71 :: c72 :: c73 :: c74 :: c75 :: c76 :: c77 :: c78 :: c79 :: c80 :: c81 :: c82 :: c83 :: c84 :: c85 :: c86 :: c87 :: c88 :: c89 :: c90 :: c91 :: c92 :: c93 :: c94 :: c95 :: c96 :: c97 :: c98 :: c99 :: c100 :: c101 :: c102 :: c103 :: c104 :: c105 :: c106 :: c107 :: c108 :: c109 :: c110 :: c111 :: c112 :: c113 :: c114 :: c115 :: c116 :: c117 :: c118 :: c119 :: c120 :: c121 :: c122 :: c123 :: c124 :: c125 :: c126 :: c127 :: c128 :: c129 :: c130 :: c131 :: c132 :: c133 :: c134 :: c135 :: c136 :: c137 :: c138 :: c139 :: c140 :: c141 :: c142 :: c143 :: c144 :: c145 :: c146 :: c147 :: c148 :: c149 :: c150 :: c151 :: c152 :: c153 :: c154 :: c155 :: c156 :: c157 :: c158 :: c159 :: c160 :: c161 :: c162 :: c163 :: c164 :: c165 :: c166 :: c167 :: c168 :: c169 :: c170 :: c171 :: c172 :: c173 :: c174 :: c175 :: c176 :: c177 :: c178 :: c179 :: c180 :: c181 :: c182 :: c183 :: c184 :: c185 :: c186 :: c187 :: c188 :: c189 :: c190 :: c191 :: c192 :: c193 :: c194 :: c195 :: c196 :: c197 :: c198 :: c199 :: c200 :: c201 :: c202 :: c203 :: c204 :: c205 :: c206 :: c207 :: c208 :: c209 :: c210 :: c211 :: c212 :: c213 :: c214 :: c215 :: c216 :: c217 :: c218 :: c219 :: c220 :: c221 :: c222 :: c223 :: c224 :: c225 :: c226 :: c227 :: c228 :: c229 :: c230 :: c231 :: c232 :: c233 :: c234 :: c235 :: c236 :: c237 :: c238 :: c239 :: c240 :: c241 :: c242 :: c243 :: c244 :: c245 :: c246 :: c247 :: c248 :: c249 :: c250 :: c251 :: c252 :: c253 :: c254 :: c255 :: c256 :: c257 :: c258 :: c259 :: c260 :: c261 :: c262 :: c263 :: c264 :: c265 :: c266 :: c267 :: c268 :: c269 :: c270 :: c271 :: c272 :: c273 :: c274 :: []), []⟩ W := by
  conv => arg 2; arg 1; whnf
  have HSC := hide (And.intro S (And.intro C E))
  have HR := hide (And.intro hraw hF)
  have HX := hide hexit
  clear S C E hraw hF hexit
  go_loopw [2, 16] (fun nv iv wr => ∃ (i : Nat) (lt lc : Int) (ws' : Nat → Wt), nv = .int .i64 (k0 + i) ∧ iv = .int .i64 i ∧ i ≤ es.length ∧ T1 own w wr g w.heap.size F st T m L es k0 i lt lc ws') (fun _ iv _ => es.length - (intOf iv).toNat)
  case atStart => exact ⟨0, t0, 0, ws, by simp, rfl, Nat.zero_le _, T0⟩
  case round =>
    clear T0
    obtain ⟨i, lt, lc, ws', rfl, rfl, hi, R⟩ := hrel
    by_cases hlt : i < es.length
    · refine told_round R hlt og hl HSC.out.1 HSC.out.2.1 HSC.out.2.2 hte hm HR.out.1 HR.out.2 h6 hs hT hel hk0 hk1 _ _ ?_
      intro u14 u17 u18 u19 u20 u21 u22 u29 u30 u31 u32 u33 u34 u35 u36 u37 u38 u39 u40 u41 u42 u43 u44 u45 u46 u47 u48 u49 u50 u51 u52 u53 u54 u55 u56 u57 u58 u59 u60 u61 u62 u63 u64 u65 u66 u67 u68 u69 u70 u71 u72 u73 u74 u75 u76 u77 u78 u79 u80 u81 u82 u83 u84 u85 u86 u87 u88 u89 u90 u91 u92 u93 u94 u95 u96 u97 u98 u99 u100 u101 u102 u103 u104 u105 u106 u107 u108 u109 u110 u111 u112 u113 u114 u115 u116 u117 u118 u119 u120 u121 u122 u123 u124 u125 u126 u127 u128 u129 u130 u131 u132 u133 u134 u135 u136 u137 u138 u139 u140 u141 u142 u143 u144 u145 u146 u147 u148 u149 u150 u151 u152 u153 u154 u155 u156 u157 u158 u159 u160 u161 u162 u163 u164 u165 u166 u167 u168 u169 u170 u171 u172 u173 u174 u175 u176 u177 u178 u179 u180 u181 u182 u183 u184 u185 u186 u187 u188 u189 u190 u191 u192 u193 u194 u195 u196 u197 u198 u199 u200 u201 u202 u203 u204 u205 u206 u207 u208 u209 u210 u211 u212 u213 u214 u215 u216 u217 u218 u219 u220 u221 u222 u223 u224 u225 u226 u227 u228 u229 u230 u231 u232 u233 u234 u235 u236 v2 v16 lt' lc' ws2 wz e1 e2 q
      subst e1 e2
      go_roundw
      case rel => exact ⟨i + 1, lt', lc', ws2, rfl, rfl, by omega, q⟩
      case measure => simp [intOf]; omega
    · have hie : i = es.length := by omega
      have hni : ¬ (i : Int) < es.length := by omega
      have HRR := hide R
      have HIE := hide hie
      clear R hie
      go_wp2_with fail
      refine HX.out _ _ _ _ _ _ _ _ _ _ _ _ _ _ _ _ _ _ _ _ _ _ _ _ _ _ _ _ _ _ _ _ _ _ _ _ _ _ _ _ _ _ _ _ _ _ _ _ _ _ _ _ _ _ _ _ _ _ _ _ _ _ _ _ _ _ _ _ _ _ _ _ _ _ _ _ _ _ _ _ _ _ _ _ _ _ _ _ _ _ _ _ _ _ _ _ _ _ _ _ _ _ _ _ _ _ _ _ _ _ _ _ _ _ _ _ _ _ _ _ _ _ _ _ _ _ _ _ _ _ _ _ _ _ _ _ _ _ _ _ _ _ _ _ _ _ _ _ _ _ _ _ _ _ _ _ _ _ _ _ _ _ _ _ _ _ _ _ _ _ _ _ _ _ _ _ _ _ _ _ _ _ _ _ _ _ _ _ _ _ _ _ _ _ _ _ _ _ _ _ _ _ _ _ _ _ _ _ _ _ _ _ _ _ _ _ _ lt lc ws' wr ?_
      have := HRR.out
      rw [HIE.out] at this
      exact this
end Go.Proofs.YtcnmbldikjljeaaGreatDoor
