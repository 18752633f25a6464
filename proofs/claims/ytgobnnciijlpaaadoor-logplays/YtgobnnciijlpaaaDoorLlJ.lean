/- LogPlays: what is called, call by call. -/
import Derived.Test.YtgobnnciijlpaaaDoorLlH
namespace Go.Proofs.YtgobnnciijlpaaaDoor
open Go.ChangeShapes Go.WideShapes Go.ChangeAt Go.RowKit Go.DsMem Go.DsDk Go.DsLg
set_option linter.unusedVariables false

set_option maxHeartbeats 8000000 in
set_option maxRecDepth 100000 in
theorem lp_2 (acts : List A4) (cx ga o k n0 r g : Nat) (bo ko : Option Addr) (bc kc : Nat) (A : A4) (w wr wa : World) (lp mp : Value) (ht : Tab w) (hin : Act4In w ga (o + k * 4) A bo bc ko kc) (hn0 : n0 = wr.heap.size)
    (hX : wa.heap[n0]? = some (.cells #[.int .i64 A.kind, .slice bo A.b.length bc, .int .i64 A.n, .slice ko A.keep.length kc] 38 (0, 0))) (hBA : Below wr.heap.size wr wa) (hst : State w wr w.heap.size r g k lp mp) (hkd : A.kind = 2)
    (c1 c2 c6 c7 c8 c10 c11 c12 c15 c16 c17 c18 c19 c20 c21 c22 c23 c24 c25 c26 c27 c28 c29 c30 c31 c32 c33 c34 c35 c36 c37 c38 c39 c40 c41 c42 c43 c44 c45 c46 c47 c48 c49 c50 c51 c52 c53 c54 c55 c56 c57 c58 c59 c60 c61 c62 c64 c65 c66 c67 c68 c69 c70 c71 c72 c73 c74 c75 c76 c77 c78 c79 c80 c81 c82 c83 c84 c85 c86 c87 c88 c89 c90 c91 c92 c93 c94 c95 c96 c97 c98 c99 c100 c101 c102 c103 c104 c105 c106 c107 c108 c109 c110 c111 c112 c113 c114 c115 c116 c117 c118 c119 c120 c121 c122 c123 c124 c125 c126 c127 c128 c129 c130 c131 c132 c133 c134 c135 c136 c137 c138 c139 c140 c141 c142 c143 c144 c145 c146 c147 c148 c149 c150 c151 c152 c153 c154 c155 c156 c157 c158 c159 c160 c161 c162 c163 c164 c165 c166 c167 c168 c169 c170 c171 c172 c173 c174 c175 c176 c177 c178 c179 c180 c181 c182 c183 c184 c185 c186 c187 c188 c189 c190 c191 c192 c193 c194 c195 c196 c197 c198 c199 c200 c201 c202 c203 c204 c205 c206 c207 c208 c209 c210 c211 c212 c213 c214 c215 c216 c217 c218 c219 c220 c221 c222 c223 : Value) (K1 K3 K4 K5 : Act → World → Prop) (P : Ending → World → Prop) (hk30 : k ≤ 30) (hK : ∀ (x5 x9 x15 x16 x17 x18 x19 x20 x21 x22 x23 x24 x48 x49 x50 x51 x52 x53 x54 x55 x56 x57 x58 x59 x60 x61 x62 x63 x64 x65 x66 x67 x68 x69 x70 x71 x72 x73 x74 x75 x76 x77 x78 x79 x80 x81 x82 x83 x84 x85 x86 x87 x88 x89 x90 x91 x92 x93 x94 x95 x96 x97 x98 x99 x100 x101 x102 x103 x104 x105 x106 x107 x108 x109 x110 x111 x112 x113 x114 x115 x116 x117 x118 x119 x120 x121 x122 x123 x124 x125 x126 x127 x128 x129 x130 x131 x132 x133 x134 x135 x136 x137 x138 x139 x140 x141 x142 x143 x144 x145 x146 x147 x148 x149 x150 x151 x152 x153 x154 x155 x156 x157 x158 x159 x160 x161 x162 x163 x164 x165 x166 x167 x168 x169 x170 x171 x172 x173 x174 x175 x176 x177 x178 x179 x180 x181 x182 x183 x184 x185 x186 x187 x188 x189 x190 x191 x192 x193 x194 x195 x196 x197 x198 x199 x200 x201 x202 x203 x204 x205 x206 x207 x208 x209 x210 x211 x212 x213 x214 x215 x216 x217 x218 x219 x220 x221 x222 : Value) (w' : World), State w w' w.heap.size r g (k + 1) x5 x9 → K1 ⟨#[.slice (some ⟨ga, o, none⟩) acts.length cx, c1, c2, .pointer (some ⟨w.heap.size, 0, none⟩), .pointer (some ⟨r, 0, none⟩), x5, c6, c7, c8, x9, c10, c11, c12, .int .i64 (k : Int), .pointer (some ⟨n0, 0, none⟩), x15, x16, x17, x18, x19, x20, x21, x22, x23, x24, c25, c26, c27, c28, c29, c30, c31, c32, c33, c34, c35, c36, c37, c38, c39, c40, c41, c42, c43, c44, c45, c46, c47, x48, x49, x50, x51, x52, x53, x54, x55, x56, x57, x58, x59, x60, x61, x62, x63, x64, x65, x66, x67, x68, x69, x70, x71, x72, x73, x74, x75, x76, x77, x78, x79, x80, x81, x82, x83, x84, x85, x86, x87, x88, x89, x90, x91, x92, x93, x94, x95, x96, x97, x98, x99, x100, x101, x102, x103, x104, x105, x106, x107, x108, x109, x110, x111, x112, x113, x114, x115, x116, x117, x118, x119, x120, x121, x122, x123, x124, x125, x126, x127, x128, x129, x130, x131, x132, x133, x134, x135, x136, x137, x138, x139, x140, x141, x142, x143, x144, x145, x146, x147, x148, x149, x150, x151, x152, x153, x154, x155, x156, x157, x158, x159, x160, x161, x162, x163, x164, x165, x166, x167, x168, x169, x170, x171, x172, x173, x174, x175, x176, x177, x178, x179, x180, x181, x182, x183, x184, x185, x186, x187, x188, x189, x190, x191, x192, x193, x194, x195, x196, x197, x198, x199, x200, x201, x202, x203, x204, x205, x206, x207, x208, x209, x210, x211, x212, x213, x214, x215, x216, x217, x218, x219, x220, x221, x222, c223], []⟩ w') :
    Code.wp Tryd.prog plSwitch (Exit.then K1 (Exit.inBlock 1 (Exit.then K3 (Exit.then K4 (Exit.inBlock 0 (Exit.then K5 (bodyPost Tryd.prog Tryd.f3 P))))))) ⟨#[.slice (some ⟨ga, o, none⟩) acts.length cx, c1, c2, .pointer (some ⟨w.heap.size, 0, none⟩), .pointer (some ⟨r, 0, none⟩), lp, c6, c7, c8, mp, c10, c11, c12, .int .i64 (k : Int), .pointer (some ⟨n0, 0, none⟩), c15, c16, c17, c18, c19, c20, c21, c22, c23, c24, c25, c26, c27, c28, c29, c30, c31, c32, c33, c34, c35, c36, c37, c38, c39, c40, c41, c42, c43, c44, c45, c46, c47, c48, c49, c50, c51, c52, c53, c54, c55, c56, c57, c58, c59, c60, c61, c62, .int .i64 2, c64, c65, c66, c67, c68, c69, c70, c71, c72, c73, c74, c75, c76, c77, c78, c79, c80, c81, c82, c83, c84, c85, c86, c87, c88, c89, c90, c91, c92, c93, c94, c95, c96, c97, c98, c99, c100, c101, c102, c103, c104, c105, c106, c107, c108, c109, c110, c111, c112, c113, c114, c115, c116, c117, c118, c119, c120, c121, c122, c123, c124, c125, c126, c127, c128, c129, c130, c131, c132, c133, c134, c135, c136, c137, c138, c139, c140, c141, c142, c143, c144, c145, c146, c147, c148, c149, c150, c151, c152, c153, c154, c155, c156, c157, c158, c159, c160, c161, c162, c163, c164, c165, c166, c167, c168, c169, c170, c171, c172, c173, c174, c175, c176, c177, c178, c179, c180, c181, c182, c183, c184, c185, c186, c187, c188, c189, c190, c191, c192, c193, c194, c195, c196, c197, c198, c199, c200, c201, c202, c203, c204, c205, c206, c207, c208, c209, c210, c211, c212, c213, c214, c215, c216, c217, c218, c219, c220, c221, c222, c223], []⟩ wa := by
  have HT := hide ht
  have HIN := hide hin
  have HN0 := hide hn0
  have HX := hide hX
  have HBA := hide hBA
  have HST := hide hst
  have HSA := hide (hst.grew hBA)
  have HK := hide hK
  have hk1 := cell_of (k := 1) HX.out
  have hk2 := cell_of (k := 2) HX.out
  have hk3 := cell_of (k := 3) HX.out
  have hk0 := cell_of (k := 0) HX.out
  simp only [List.getElem?_toArray, List.getElem?_cons_zero, List.getElem?_cons_succ] at hk0 hk1 hk2 hk3
  rw [hkd] at hk0
  have hna := block_lt HX.out
  clear ht hin hn0 hX hBA hst hK hkd
  conv => arg 2; whnf
  have hst2 := HST.out
  clear HSA HST
  cases hst2 with
  | none v D S u hB =>
    have HB := hide (hB.grew HBA.out)
    clear hB
    go_wp2
    exact HK.out _ _ _ _ _ _ _ _ _ _ _ _ _ _ _ _ _ _ _ _ _ _ _ _ _ _ _ _ _ _ _ _ _ _ _ _ _ _ _ _ _ _ _ _ _ _ _ _ _ _ _ _ _ _ _ _ _ _ _ _ _ _ _ _ _ _ _ _ _ _ _ _ _ _ _ _ _ _ _ _ _ _ _ _ _ _ _ _ _ _ _ _ _ _ _ _ _ _ _ _ _ _ _ _ _ _ _ _ _ _ _ _ _ _ _ _ _ _ _ _ _ _ _ _ _ _ _ _ _ _ _ _ _ _ _ _ _ _ _ _ _ _ _ _ _ _ _ _ _ _ _ _ _ _ _ _ _ _ _ _ _ _ _ _ _ _ _ _ _ _ _ _ _ _ _ _ _ _ _ _ _ _ _ _ _ _ _ _ (State.none _ _ _ _ HB.out)
  | some v D l L S u m hB hn hz =>
    have HOF := hide (hB.off (n := n0) (by rw [HN0.out]; exact Nat.le_refl _))
    have HB := hide (hB.grew HBA.out)
    have HN := hide (appB_next (D := D) (rec := A.b) hn)
    have HN1 := hide hn
    have HZ := hide hz
    clear hB hn hz
    go_wp2_with fail
    refine (lent_any A.b _ wa (rd_in HIN.out.rb HB.out.both.own.below (Nat.le_refl _)) HIN.out.lb).mono ?_
    rintro e wl ⟨rfl, hL, BL⟩
    have hgl := HB.out.off (n := wa.heap.size) (Nat.le_refl _)
    have hln := hL.lt4
    generalize hgw : wa.heap.size = gl at *
    have hcl1 : wl.cell? ⟨n0, 1, none⟩ = some (.slice bo A.b.length bc) := Below.keeps BL (by omega) hk1
    have HBL := hide (HB.out.grew (by rw [hgw]; exact BL))
    have HL := hide hL
    have HGL := hide hgl
    have HBD := hide (HBL.out.grew (Below.refl _ _).drew)
    have HTL := hide (HT.out.below HBD.out.both.own.below (Nat.le_refl _))
    clear hL BL hgl hk0 hk1 hk2 hk3 hgw
    go_wp2
    go_region_held (fun w' => w'.cell? ⟨n0, 1, none⟩ = some (.slice bo A.b.length bc)) (go_keep) (first
      | (go_at_call 15; refine (lappend_any l _ v D L _ A.b wl.drew HBD.out.log HBD.out.both.own.dk HBD.out.lf HTL.out (Rd.drew HL.out.rd) HN1.out (by have := HZ.out; omega)).mono ?_; rintro e w1 ⟨rfl, v1, hm1⟩; have hd1 : w1.cell? ⟨n0, 1, none⟩ = some (.slice bo A.b.length bc) := hm1.keeps hcl1 HOF.out.2.1 HOF.out.2.2.2.1; have HB1 := hide (HBD.out.left hm1); have HL1 := hide (lent_only4 (w := wl.drew) HL.out hm1.only (fun e => by rcases e with e | e; exact HGL.out.2.1 e; exact HGL.out.2.2.2.1 e)); have HF1 : Hid (¬ foot w.heap.size v1 gl) := fun hf => (by rcases hm1.grow gl hf with e | e; exact HGL.out.2.1 e; have e2 : wl.heap.size ≤ gl := e; omega); clear hm1)
      | (go_at_call 16; refine (rlappend_any S r g m u D L _ A.b w1 HB1.out.rlog HB1.out.both.ref HB1.out.ms (rd_in HIN.out.rb HB1.out.both.own.below (Nat.le_refl _)) HN1.out (by have := HZ.out; omega)).mono ?_; rintro e w2 ⟨rfl, u2, hm2⟩; have he1 : w2.cell? ⟨n0, 1, none⟩ = some (.slice bo A.b.length bc) := hm2.keeps HB1.out.both.ref hd1 HOF.out.2.2.1 HOF.out.2.2.2.2; have HB2 := hide (HB1.out.right hm2); have HL2 := hide (lent_only4 HL1.out hm2.only (fun e => by rcases e with e | e | e; exact HGL.out.2.2.1 (by rw [e]; exact HB1.out.both.ref.sr); exact HGL.out.2.2.1 (by rw [e]; exact HB1.out.both.ref.sg); exact HGL.out.2.2.2.2 e)); have HG2 : Hid (¬ (S gl ∨ w1.heap.size ≤ gl ∧ gl < w2.heap.size)) := fun e => (by have := HL1.out.lt4; rcases e with e | e; exact HGL.out.2.2.1 e; omega); clear hm2)
      | (go_at_call 17; refine (kept_any _ gl A.b _ w2 HL2.out (rd_in HIN.out.rb HB2.out.both.own.below (Nat.le_refl _)) HIN.out.lb).mono ?_; rintro e w3 ⟨rfl, B3⟩; have hf1 : w3.cell? ⟨n0, 1, none⟩ = some (.slice bo A.b.length bc) := Below.keeps B3 (Nat.le_refl _) he1; have HB3 := hide (HB2.out.grew B3); have HL3 := hide (HL2.out.below B3); clear B3))
    go_wp2_with (go_at_call 18; refine (spoil_any _ _ _ _ _ HL3.out.own).mono ?_; rintro e w4 ⟨rfl, ho4⟩; have HB4 := hide (HB3.out.only ho4 (fun q hq => by have e2 : gl = q := Option.some.inj hq; rw [← e2]; exact ⟨HGL.out.1, HF1.out, HG2.out, HGL.out.2.2.2.1, HGL.out.2.2.2.2⟩)); clear ho4)
    exact HK.out _ _ _ _ _ _ _ _ _ _ _ _ _ _ _ _ _ _ _ _ _ _ _ _ _ _ _ _ _ _ _ _ _ _ _ _ _ _ _ _ _ _ _ _ _ _ _ _ _ _ _ _ _ _ _ _ _ _ _ _ _ _ _ _ _ _ _ _ _ _ _ _ _ _ _ _ _ _ _ _ _ _ _ _ _ _ _ _ _ _ _ _ _ _ _ _ _ _ _ _ _ _ _ _ _ _ _ _ _ _ _ _ _ _ _ _ _ _ _ _ _ _ _ _ _ _ _ _ _ _ _ _ _ _ _ _ _ _ _ _ _ _ _ _ _ _ _ _ _ _ _ _ _ _ _ _ _ _ _ _ _ _ _ _ _ _ _ _ _ _ _ _ _ _ _ _ _ _ _ _ _ _ _ _ _ _ _ _ (State.some _ _ _ _ _ _ _ HB4.out HN.out.1 (by have := HN.out.2; have := HZ.out; omega))

set_option maxHeartbeats 8000000 in
set_option maxRecDepth 100000 in
theorem lp_3 (acts : List A4) (cx ga o k n0 r g : Nat) (bo ko : Option Addr) (bc kc : Nat) (A : A4) (w wr wa : World) (lp mp : Value) (ht : Tab w) (hin : Act4In w ga (o + k * 4) A bo bc ko kc) (hn0 : n0 = wr.heap.size)
    (hX : wa.heap[n0]? = some (.cells #[.int .i64 A.kind, .slice bo A.b.length bc, .int .i64 A.n, .slice ko A.keep.length kc] 38 (0, 0))) (hBA : Below wr.heap.size wr wa) (hst : State w wr w.heap.size r g k lp mp) (hkd : A.kind = 3)
    (c1 c2 c6 c7 c8 c10 c11 c12 c15 c16 c17 c18 c19 c20 c21 c22 c23 c24 c25 c26 c27 c28 c29 c30 c31 c32 c33 c34 c35 c36 c37 c38 c39 c40 c41 c42 c43 c44 c45 c46 c47 c48 c49 c50 c51 c52 c53 c54 c55 c56 c57 c58 c59 c60 c61 c62 c64 c65 c66 c67 c68 c69 c70 c71 c72 c73 c74 c75 c76 c77 c78 c79 c80 c81 c82 c83 c84 c85 c86 c87 c88 c89 c90 c91 c92 c93 c94 c95 c96 c97 c98 c99 c100 c101 c102 c103 c104 c105 c106 c107 c108 c109 c110 c111 c112 c113 c114 c115 c116 c117 c118 c119 c120 c121 c122 c123 c124 c125 c126 c127 c128 c129 c130 c131 c132 c133 c134 c135 c136 c137 c138 c139 c140 c141 c142 c143 c144 c145 c146 c147 c148 c149 c150 c151 c152 c153 c154 c155 c156 c157 c158 c159 c160 c161 c162 c163 c164 c165 c166 c167 c168 c169 c170 c171 c172 c173 c174 c175 c176 c177 c178 c179 c180 c181 c182 c183 c184 c185 c186 c187 c188 c189 c190 c191 c192 c193 c194 c195 c196 c197 c198 c199 c200 c201 c202 c203 c204 c205 c206 c207 c208 c209 c210 c211 c212 c213 c214 c215 c216 c217 c218 c219 c220 c221 c222 c223 : Value) (K1 K3 K4 K5 : Act → World → Prop) (P : Ending → World → Prop) (hk30 : k ≤ 30) (hK : ∀ (x5 x9 x15 x16 x17 x18 x19 x20 x21 x22 x23 x24 x48 x49 x50 x51 x52 x53 x54 x55 x56 x57 x58 x59 x60 x61 x62 x63 x64 x65 x66 x67 x68 x69 x70 x71 x72 x73 x74 x75 x76 x77 x78 x79 x80 x81 x82 x83 x84 x85 x86 x87 x88 x89 x90 x91 x92 x93 x94 x95 x96 x97 x98 x99 x100 x101 x102 x103 x104 x105 x106 x107 x108 x109 x110 x111 x112 x113 x114 x115 x116 x117 x118 x119 x120 x121 x122 x123 x124 x125 x126 x127 x128 x129 x130 x131 x132 x133 x134 x135 x136 x137 x138 x139 x140 x141 x142 x143 x144 x145 x146 x147 x148 x149 x150 x151 x152 x153 x154 x155 x156 x157 x158 x159 x160 x161 x162 x163 x164 x165 x166 x167 x168 x169 x170 x171 x172 x173 x174 x175 x176 x177 x178 x179 x180 x181 x182 x183 x184 x185 x186 x187 x188 x189 x190 x191 x192 x193 x194 x195 x196 x197 x198 x199 x200 x201 x202 x203 x204 x205 x206 x207 x208 x209 x210 x211 x212 x213 x214 x215 x216 x217 x218 x219 x220 x221 x222 : Value) (w' : World), State w w' w.heap.size r g (k + 1) x5 x9 → K1 ⟨#[.slice (some ⟨ga, o, none⟩) acts.length cx, c1, c2, .pointer (some ⟨w.heap.size, 0, none⟩), .pointer (some ⟨r, 0, none⟩), x5, c6, c7, c8, x9, c10, c11, c12, .int .i64 (k : Int), .pointer (some ⟨n0, 0, none⟩), x15, x16, x17, x18, x19, x20, x21, x22, x23, x24, c25, c26, c27, c28, c29, c30, c31, c32, c33, c34, c35, c36, c37, c38, c39, c40, c41, c42, c43, c44, c45, c46, c47, x48, x49, x50, x51, x52, x53, x54, x55, x56, x57, x58, x59, x60, x61, x62, x63, x64, x65, x66, x67, x68, x69, x70, x71, x72, x73, x74, x75, x76, x77, x78, x79, x80, x81, x82, x83, x84, x85, x86, x87, x88, x89, x90, x91, x92, x93, x94, x95, x96, x97, x98, x99, x100, x101, x102, x103, x104, x105, x106, x107, x108, x109, x110, x111, x112, x113, x114, x115, x116, x117, x118, x119, x120, x121, x122, x123, x124, x125, x126, x127, x128, x129, x130, x131, x132, x133, x134, x135, x136, x137, x138, x139, x140, x141, x142, x143, x144, x145, x146, x147, x148, x149, x150, x151, x152, x153, x154, x155, x156, x157, x158, x159, x160, x161, x162, x163, x164, x165, x166, x167, x168, x169, x170, x171, x172, x173, x174, x175, x176, x177, x178, x179, x180, x181, x182, x183, x184, x185, x186, x187, x188, x189, x190, x191, x192, x193, x194, x195, x196, x197, x198, x199, x200, x201, x202, x203, x204, x205, x206, x207, x208, x209, x210, x211, x212, x213, x214, x215, x216, x217, x218, x219, x220, x221, x222, c223], []⟩ w') :
    Code.wp Tryd.prog plSwitch (Exit.then K1 (Exit.inBlock 1 (Exit.then K3 (Exit.then K4 (Exit.inBlock 0 (Exit.then K5 (bodyPost Tryd.prog Tryd.f3 P))))))) ⟨#[.slice (some ⟨ga, o, none⟩) acts.length cx, c1, c2, .pointer (some ⟨w.heap.size, 0, none⟩), .pointer (some ⟨r, 0, none⟩), lp, c6, c7, c8, mp, c10, c11, c12, .int .i64 (k : Int), .pointer (some ⟨n0, 0, none⟩), c15, c16, c17, c18, c19, c20, c21, c22, c23, c24, c25, c26, c27, c28, c29, c30, c31, c32, c33, c34, c35, c36, c37, c38, c39, c40, c41, c42, c43, c44, c45, c46, c47, c48, c49, c50, c51, c52, c53, c54, c55, c56, c57, c58, c59, c60, c61, c62, .int .i64 3, c64, c65, c66, c67, c68, c69, c70, c71, c72, c73, c74, c75, c76, c77, c78, c79, c80, c81, c82, c83, c84, c85, c86, c87, c88, c89, c90, c91, c92, c93, c94, c95, c96, c97, c98, c99, c100, c101, c102, c103, c104, c105, c106, c107, c108, c109, c110, c111, c112, c113, c114, c115, c116, c117, c118, c119, c120, c121, c122, c123, c124, c125, c126, c127, c128, c129, c130, c131, c132, c133, c134, c135, c136, c137, c138, c139, c140, c141, c142, c143, c144, c145, c146, c147, c148, c149, c150, c151, c152, c153, c154, c155, c156, c157, c158, c159, c160, c161, c162, c163, c164, c165, c166, c167, c168, c169, c170, c171, c172, c173, c174, c175, c176, c177, c178, c179, c180, c181, c182, c183, c184, c185, c186, c187, c188, c189, c190, c191, c192, c193, c194, c195, c196, c197, c198, c199, c200, c201, c202, c203, c204, c205, c206, c207, c208, c209, c210, c211, c212, c213, c214, c215, c216, c217, c218, c219, c220, c221, c222, c223], []⟩ wa := by
  have HT := hide ht
  have HIN := hide hin
  have HN0 := hide hn0
  have HX := hide hX
  have HBA := hide hBA
  have HST := hide hst
  have HSA := hide (hst.grew hBA)
  have HK := hide hK
  have hk1 := cell_of (k := 1) HX.out
  have hk2 := cell_of (k := 2) HX.out
  have hk3 := cell_of (k := 3) HX.out
  have hk0 := cell_of (k := 0) HX.out
  simp only [List.getElem?_toArray, List.getElem?_cons_zero, List.getElem?_cons_succ] at hk0 hk1 hk2 hk3
  rw [hkd] at hk0
  have hna := block_lt HX.out
  clear ht hin hn0 hX hBA hst hK hkd
  conv => arg 2; whnf
  have hst2 := HST.out
  clear HSA HST
  cases hst2 with
  | none v D S u hB =>
    have HB := hide (hB.grew HBA.out)
    clear hB
    go_wp2
    exact HK.out _ _ _ _ _ _ _ _ _ _ _ _ _ _ _ _ _ _ _ _ _ _ _ _ _ _ _ _ _ _ _ _ _ _ _ _ _ _ _ _ _ _ _ _ _ _ _ _ _ _ _ _ _ _ _ _ _ _ _ _ _ _ _ _ _ _ _ _ _ _ _ _ _ _ _ _ _ _ _ _ _ _ _ _ _ _ _ _ _ _ _ _ _ _ _ _ _ _ _ _ _ _ _ _ _ _ _ _ _ _ _ _ _ _ _ _ _ _ _ _ _ _ _ _ _ _ _ _ _ _ _ _ _ _ _ _ _ _ _ _ _ _ _ _ _ _ _ _ _ _ _ _ _ _ _ _ _ _ _ _ _ _ _ _ _ _ _ _ _ _ _ _ _ _ _ _ _ _ _ _ _ _ _ _ _ _ _ _ (State.none _ _ _ _ HB.out)
  | some v D l L S u m hB hn hz =>
    have HOF := hide (hB.off (n := n0) (by rw [HN0.out]; exact Nat.le_refl _))
    have HB := hide (hB.grew HBA.out)
    have HN := hide (appB_next (D := D) (rec := A.b) hn)
    have HN1 := hide hn
    have HZ := hide hz
    clear hB hn hz
    go_wp2_with fail
    refine (lent_any A.b _ wa (rd_in HIN.out.rb HB.out.both.own.below (Nat.le_refl _)) HIN.out.lb).mono ?_
    rintro e wl ⟨rfl, hL, BL⟩
    have hgl := HB.out.off (n := wa.heap.size) (Nat.le_refl _)
    have hln := hL.lt4
    generalize hgw : wa.heap.size = gl at *
    have hcl1 : wl.cell? ⟨n0, 1, none⟩ = some (.slice bo A.b.length bc) := Below.keeps BL (by omega) hk1
    have HBL := hide (HB.out.grew (by rw [hgw]; exact BL))
    have HL := hide hL
    have HGL := hide hgl
    have HBD := hide (HBL.out.grew (Below.refl _ _).drew)
    have HTL := hide (HT.out.below HBD.out.both.own.below (Nat.le_refl _))
    clear hL BL hgl hk0 hk1 hk2 hk3 hgw
    go_wp2
    go_region_held (fun w' => w'.cell? ⟨n0, 1, none⟩ = some (.slice bo A.b.length bc)) (go_keep) (first
      | (go_at_call 15; refine (lappend_any l _ v D L _ A.b wl.drew HBD.out.log HBD.out.both.own.dk HBD.out.lf HTL.out (Rd.drew HL.out.rd) HN1.out (by have := HZ.out; omega)).mono ?_; rintro e w1 ⟨rfl, v1, hm1⟩; have hd1 : w1.cell? ⟨n0, 1, none⟩ = some (.slice bo A.b.length bc) := hm1.keeps hcl1 HOF.out.2.1 HOF.out.2.2.2.1; have HB1 := hide (HBD.out.left hm1); have HL1 := hide (lent_only4 (w := wl.drew) HL.out hm1.only (fun e => by rcases e with e | e; exact HGL.out.2.1 e; exact HGL.out.2.2.2.1 e)); have HF1 : Hid (¬ foot w.heap.size v1 gl) := fun hf => (by rcases hm1.grow gl hf with e | e; exact HGL.out.2.1 e; have e2 : wl.heap.size ≤ gl := e; omega); clear hm1)
      | (go_at_call 16; refine (rlappend_any S r g m u D L _ A.b w1 HB1.out.rlog HB1.out.both.ref HB1.out.ms (rd_in HIN.out.rb HB1.out.both.own.below (Nat.le_refl _)) HN1.out (by have := HZ.out; omega)).mono ?_; rintro e w2 ⟨rfl, u2, hm2⟩; have he1 : w2.cell? ⟨n0, 1, none⟩ = some (.slice bo A.b.length bc) := hm2.keeps HB1.out.both.ref hd1 HOF.out.2.2.1 HOF.out.2.2.2.2; have HB2 := hide (HB1.out.right hm2); have HL2 := hide (lent_only4 HL1.out hm2.only (fun e => by rcases e with e | e | e; exact HGL.out.2.2.1 (by rw [e]; exact HB1.out.both.ref.sr); exact HGL.out.2.2.1 (by rw [e]; exact HB1.out.both.ref.sg); exact HGL.out.2.2.2.2 e)); have HG2 : Hid (¬ (S gl ∨ w1.heap.size ≤ gl ∧ gl < w2.heap.size)) := fun e => (by have := HL1.out.lt4; rcases e with e | e; exact HGL.out.2.2.1 e; omega); clear hm2)
      | (go_at_call 17; refine (kept_any _ gl A.b _ w2 HL2.out (rd_in HIN.out.rb HB2.out.both.own.below (Nat.le_refl _)) HIN.out.lb).mono ?_; rintro e w3 ⟨rfl, B3⟩; have hf1 : w3.cell? ⟨n0, 1, none⟩ = some (.slice bo A.b.length bc) := Below.keeps B3 (Nat.le_refl _) he1; have HB3 := hide (HB2.out.grew B3); have HL3 := hide (HL2.out.below B3); clear B3))
    go_wp2_with (go_at_call 18; refine (spoil_any _ _ _ _ _ HL3.out.own).mono ?_; rintro e w4 ⟨rfl, ho4⟩; have HB4 := hide (HB3.out.only ho4 (fun q hq => by have e2 : gl = q := Option.some.inj hq; rw [← e2]; exact ⟨HGL.out.1, HF1.out, HG2.out, HGL.out.2.2.2.1, HGL.out.2.2.2.2⟩)); clear ho4)
    exact HK.out _ _ _ _ _ _ _ _ _ _ _ _ _ _ _ _ _ _ _ _ _ _ _ _ _ _ _ _ _ _ _ _ _ _ _ _ _ _ _ _ _ _ _ _ _ _ _ _ _ _ _ _ _ _ _ _ _ _ _ _ _ _ _ _ _ _ _ _ _ _ _ _ _ _ _ _ _ _ _ _ _ _ _ _ _ _ _ _ _ _ _ _ _ _ _ _ _ _ _ _ _ _ _ _ _ _ _ _ _ _ _ _ _ _ _ _ _ _ _ _ _ _ _ _ _ _ _ _ _ _ _ _ _ _ _ _ _ _ _ _ _ _ _ _ _ _ _ _ _ _ _ _ _ _ _ _ _ _ _ _ _ _ _ _ _ _ _ _ _ _ _ _ _ _ _ _ _ _ _ _ _ _ _ _ _ _ _ _ (State.some _ _ _ _ _ _ _ HB4.out HN.out.1 (by have := HN.out.2; have := HZ.out; omega))

end Go.Proofs.YtgobnnciijlpaaaDoor
