/- LogPlays: what is called, call by call. -/
import Derived.Test.YtgobnnciijlpaaaDoorLlH
namespace Go.Proofs.YtgobnnciijlpaaaDoor
open Go.ChangeShapes Go.WideShapes Go.ChangeAt Go.RowKit Go.DsMem Go.DsDk Go.DsLg
set_option linter.unusedVariables false

set_option maxHeartbeats 8000000 in
set_option maxRecDepth 100000 in
theorem lp_7 (acts : List A4) (cx ga o k n0 r g : Nat) (bo ko : Option Addr) (bc kc : Nat) (A : A4) (w wr wa : World) (lp mp : Value) (ht : Tab w) (hin : Act4In w ga (o + k * 4) A bo bc ko kc) (hn0 : n0 = wr.heap.size)
    (hX : wa.heap[n0]? = some (.cells #[.int .i64 A.kind, .slice bo A.b.length bc, .int .i64 A.n, .slice ko A.keep.length kc] 38 (0, 0))) (hBA : Below wr.heap.size wr wa) (hst : State w wr w.heap.size r g k lp mp) (hkd : A.kind = 7)
    (c1 c2 c6 c7 c8 c10 c11 c12 c15 c16 c17 c18 c19 c20 c21 c22 c23 c24 c25 c26 c27 c28 c29 c30 c31 c32 c33 c34 c35 c36 c37 c38 c39 c40 c41 c42 c43 c44 c45 c46 c47 c48 c49 c50 c51 c52 c53 c54 c55 c56 c57 c58 c59 c60 c61 c62 c64 c65 c66 c67 c68 c69 c70 c71 c72 c73 c74 c75 c76 c77 c78 c79 c80 c81 c82 c83 c84 c85 c86 c87 c88 c89 c90 c91 c92 c93 c94 c95 c96 c97 c98 c99 c100 c101 c102 c103 c104 c105 c106 c107 c108 c109 c110 c111 c112 c113 c114 c115 c116 c117 c118 c119 c120 c121 c122 c123 c124 c125 c126 c127 c128 c129 c130 c131 c132 c133 c134 c135 c136 c137 c138 c139 c140 c141 c142 c143 c144 c145 c146 c147 c148 c149 c150 c151 c152 c153 c154 c155 c156 c157 c158 c159 c160 c161 c162 c163 c164 c165 c166 c167 c168 c169 c170 c171 c172 c173 c174 c175 c176 c177 c178 c179 c180 c181 c182 c183 c184 c185 c186 c187 c188 c189 c190 c191 c192 c193 c194 c195 c196 c197 c198 c199 c200 c201 c202 c203 c204 c205 c206 c207 c208 c209 c210 c211 c212 c213 c214 c215 c216 c217 c218 c219 c220 c221 c222 c223 : Value) (K1 K3 K4 K5 : Act → World → Prop) (P : Ending → World → Prop) (hk30 : k ≤ 30) (hK : ∀ (x5 x9 x15 x16 x17 x18 x19 x20 x21 x22 x23 x24 x48 x49 x50 x51 x52 x53 x54 x55 x56 x57 x58 x59 x60 x61 x62 x63 x64 x65 x66 x67 x68 x69 x70 x71 x72 x73 x74 x75 x76 x77 x78 x79 x80 x81 x82 x83 x84 x85 x86 x87 x88 x89 x90 x91 x92 x93 x94 x95 x96 x97 x98 x99 x100 x101 x102 x103 x104 x105 x106 x107 x108 x109 x110 x111 x112 x113 x114 x115 x116 x117 x118 x119 x120 x121 x122 x123 x124 x125 x126 x127 x128 x129 x130 x131 x132 x133 x134 x135 x136 x137 x138 x139 x140 x141 x142 x143 x144 x145 x146 x147 x148 x149 x150 x151 x152 x153 x154 x155 x156 x157 x158 x159 x160 x161 x162 x163 x164 x165 x166 x167 x168 x169 x170 x171 x172 x173 x174 x175 x176 x177 x178 x179 x180 x181 x182 x183 x184 x185 x186 x187 x188 x189 x190 x191 x192 x193 x194 x195 x196 x197 x198 x199 x200 x201 x202 x203 x204 x205 x206 x207 x208 x209 x210 x211 x212 x213 x214 x215 x216 x217 x218 x219 x220 x221 x222 : Value) (w' : World), State w w' w.heap.size r g (k + 1) x5 x9 → K1 ⟨#[.slice (some ⟨ga, o, none⟩) acts.length cx, c1, c2, .pointer (some ⟨w.heap.size, 0, none⟩), .pointer (some ⟨r, 0, none⟩), x5, c6, c7, c8, x9, c10, c11, c12, .int .i64 (k : Int), .pointer (some ⟨n0, 0, none⟩), x15, x16, x17, x18, x19, x20, x21, x22, x23, x24, c25, c26, c27, c28, c29, c30, c31, c32, c33, c34, c35, c36, c37, c38, c39, c40, c41, c42, c43, c44, c45, c46, c47, x48, x49, x50, x51, x52, x53, x54, x55, x56, x57, x58, x59, x60, x61, x62, x63, x64, x65, x66, x67, x68, x69, x70, x71, x72, x73, x74, x75, x76, x77, x78, x79, x80, x81, x82, x83, x84, x85, x86, x87, x88, x89, x90, x91, x92, x93, x94, x95, x96, x97, x98, x99, x100, x101, x102, x103, x104, x105, x106, x107, x108, x109, x110, x111, x112, x113, x114, x115, x116, x117, x118, x119, x120, x121, x122, x123, x124, x125, x126, x127, x128, x129, x130, x131, x132, x133, x134, x135, x136, x137, x138, x139, x140, x141, x142, x143, x144, x145, x146, x147, x148, x149, x150, x151, x152, x153, x154, x155, x156, x157, x158, x159, x160, x161, x162, x163, x164, x165, x166, x167, x168, x169, x170, x171, x172, x173, x174, x175, x176, x177, x178, x179, x180, x181, x182, x183, x184, x185, x186, x187, x188, x189, x190, x191, x192, x193, x194, x195, x196, x197, x198, x199, x200, x201, x202, x203, x204, x205, x206, x207, x208, x209, x210, x211, x212, x213, x214, x215, x216, x217, x218, x219, x220, x221, x222, c223], []⟩ w') :
    Code.wp Tryd.prog plSwitch (Exit.then K1 (Exit.inBlock 1 (Exit.then K3 (Exit.then K4 (Exit.inBlock 0 (Exit.then K5 (bodyPost Tryd.prog Tryd.f3 P))))))) ⟨#[.slice (some ⟨ga, o, none⟩) acts.length cx, c1, c2, .pointer (some ⟨w.heap.size, 0, none⟩), .pointer (some ⟨r, 0, none⟩), lp, c6, c7, c8, mp, c10, c11, c12, .int .i64 (k : Int), .pointer (some ⟨n0, 0, none⟩), c15, c16, c17, c18, c19, c20, c21, c22, c23, c24, c25, c26, c27, c28, c29, c30, c31, c32, c33, c34, c35, c36, c37, c38, c39, c40, c41, c42, c43, c44, c45, c46, c47, c48, c49, c50, c51, c52, c53, c54, c55, c56, c57, c58, c59, c60, c61, c62, .int .i64 7, c64, c65, c66, c67, c68, c69, c70, c71, c72, c73, c74, c75, c76, c77, c78, c79, c80, c81, c82, c83, c84, c85, c86, c87, c88, c89, c90, c91, c92, c93, c94, c95, c96, c97, c98, c99, c100, c101, c102, c103, c104, c105, c106, c107, c108, c109, c110, c111, c112, c113, c114, c115, c116, c117, c118, c119, c120, c121, c122, c123, c124, c125, c126, c127, c128, c129, c130, c131, c132, c133, c134, c135, c136, c137, c138, c139, c140, c141, c142, c143, c144, c145, c146, c147, c148, c149, c150, c151, c152, c153, c154, c155, c156, c157, c158, c159, c160, c161, c162, c163, c164, c165, c166, c167, c168, c169, c170, c171, c172, c173, c174, c175, c176, c177, c178, c179, c180, c181, c182, c183, c184, c185, c186, c187, c188, c189, c190, c191, c192, c193, c194, c195, c196, c197, c198, c199, c200, c201, c202, c203, c204, c205, c206, c207, c208, c209, c210, c211, c212, c213, c214, c215, c216, c217, c218, c219, c220, c221, c222, c223], []⟩ wa := by
  have HT := hide ht
  have HIN := hide hin
  have HN0 := hide hn0
  have HX := hide hX
  have HBA := hide hBA
  have HST := hide hst
  have HSA := hide (hst.grew hBA)
  have HK := hide hK
  have hk1 := cell_of (k := 1) HX.out
  have hk2 := cell_of (k := 2) HX.out
  have hk3 := cell_of (k := 3) HX.out
  have hk0 := cell_of (k := 0) HX.out
  simp only [List.getElem?_toArray, List.getElem?_cons_zero, List.getElem?_cons_succ] at hk0 hk1 hk2 hk3
  rw [hkd] at hk0
  have hna := block_lt HX.out
  clear ht hin hn0 hX hBA hst hK hkd
  conv => arg 2; whnf
  obtain ⟨v, D, S, u, hoff, hB, -⟩ := HST.out.both2 HBA.out
  have HOF := hide (hoff n0 (by rw [HN0.out]; exact Nat.le_refl _))
  have HB := hide hB
  clear hoff hB hk1 hk2
  go_wp2_with fail
  refine (crash_any _ _ _ A.keep _ _ HB.out.own.dk (rdi_in HIN.out.rk HB.out.own.below (Nat.le_refl _)) (fun h0 q hq hf => by have := rdi_blk HIN.out.rk h0 hq; have := HB.out.own.mine q hf; omega)).mono ?_
  rintro e w4' ⟨rfl, v4', hm4⟩
  have hd3 : w4'.cell? ⟨n0, 3, none⟩ = some (.slice ko A.keep.length kc) := hm4.keeps hk3 HOF.out.1
  have HB4' := hide (HB.out.left hm4)
  clear hm4 hk0 hk3
  go_wp2_with fail
  refine (rcrash_any _ _ _ _ _ A.keep _ _ HB4'.out.ref (rdi_in HIN.out.rk HB4'.out.own.below (Nat.le_refl _)) (HB4'.out.argI HIN.out.rk)).mono ?_
  rintro e wa5 ⟨rfl, u5'', hm5⟩
  obtain ⟨S5, u5', D5, v5, hB5⟩ : ∃ S5 u5 D5 v5, Both w wa5 w.heap.size v5 D5 S5 r g u5 D5 := ⟨_, _, _, _, HB4'.out.right hm5⟩
  have HB5 := hide hB5
  clear hB5 hm5 hd3 HB4' HB
  go_wp2_with fail
  refine (open_any _ _ _ _ HB5.out.own.dk (HT.out.below HB5.out.own.below (Nat.le_refl _))).mono ?_
  rintro e w6 ⟨v6, M6, hbad, hok⟩
  have HM6 := hide M6
  have HB6 := hide (HB5.out.left M6)
  have HFW := hide (open_few HB5.out.own.dk.ok)
  clear M6
  by_cases herr : (openB D5).2.err = 0
  · obtain ⟨l6, x6, rs6, rfl, N6, hO6⟩ := hok herr
    obtain ⟨x6o, x6c, rfl, -⟩ := own_shape hO6.snap
    have hrs6 := hO6.recs
    obtain ⟨r6o, r6c, rfl, -⟩ := id hrs6
    have HO6 := hide hO6
    clear hok hbad hO6 hrs6
    go_wp2_with fail
    refine (ropen_any _ _ _ _ _ _ HB6.out.ref).mono ?_
    rintro e w7 hcase
    rcases hcase with ⟨hne, -⟩ | ⟨-, m7, y7, t7, u7, rfl, hR7⟩
    · exact absurd herr hne
    have HD7 := hide (HB5.out.opened HM6.out HO6.out hR7)
    have HR7N := hide hR7.new
    have hs7 := hR7.snap
    have ht7 := hR7.recs
    obtain ⟨y7o, y7c, rfl, -⟩ := id hs7
    obtain ⟨t7o, t7c, rfl, -⟩ := id ht7
    have HRL := hide (HO6.out.recs.same (w' := w7) (fun q h1 h2 h3 => hR7.only.block q h3 (fun e => by
      have hz := HB5.out.ref.lt
      rcases e with e | e
      · have := hz _ HB5.out.ref.sr; rw [← e] at this; omega
      · have := hz _ HB5.out.ref.sg; rw [← e] at this; omega)))
    have HSN := hide (own_same (w' := w7) HO6.out.snap (fun q hq => hR7.only.block q (HO6.out.snap.lt q hq).2 (fun e => by
      have hz := HB5.out.ref.lt
      have h1 := (HO6.out.snap.lt q hq).1
      rcases e with e | e
      · have := hz _ HB5.out.ref.sr; rw [← e] at this; omega
      · have := hz _ HB5.out.ref.sg; rw [← e] at this; omega)))
    have s1 := run_conv_rd (P := Tryd.prog) Tryd.underlying28 Tryd.underlying5 Tryd.underlying9 (Rd.own HSN.out)
    have s2 := run_conv_rd (P := Tryd.prog) Tryd.underlying28 Tryd.underlying5 Tryd.underlying9 hs7
    have HTS := hide ht7
    clear hR7 hs7 ht7
    generalize bstr (openB D5).2.snap = tt at s1 s2
    clear herr
    go_wp2_with (go_at_call 27; refine (rsame_any _ _ _ _ _ HRL.out.rds HTS.out (by have := HFW.out.1; omega) (by have := HFW.out.1; omega)).mono ?_; rintro e w8 ⟨rfl, B8⟩; rw [show decide ((openB D5).2.recs = (openB D5).2.recs) = true by simp]; have HB8 := hide B8; clear B8)
    have HD8 := hide (HD7.out.grew HB8.out)
    have HR8 := hide (Rows.of (HRL.out.below HB8.out))
    have HQ : Hid (∀ q, wa5.heap.size ≤ q → q < N6 → w.heap.size ≤ q ∧ ¬ foot w.heap.size v6 q ∧ ¬ (S5 q ∨ w6.heap.size ≤ q ∧ q < m7) ∧ q ≠ l6 ∧ q ≠ m7) := fun q h1 h2 => by
      have e1 := HO6.out.le
      have e2 := block_lt HO6.out.log
      have e3 := HR7N.out
      have e4 := HB5.out.own.size
      refine ⟨by omega, fun hf => ?_, fun hs => ?_, by omega, by omega⟩
      · rcases HO6.out.fof q hf with e | e <;> omega
      · rcases hs with hs | hs
        · have := HB5.out.ref.lt q hs; omega
        · omega
    generalize hnr : (openB D5).2.recs.length = nr at *
    have hnr64 : nr ≤ 65536 := by have := HFW.out.1; omega
    go_wp2
    go_loopw [24] (fun i wq => ∃ q : Nat, q ≤ nr ∧ i = .int .i64 q ∧ Rows wa5.heap.size N6 wq (.slice r6o nr r6c) nr ∧ Duo w wq w.heap.size v6 (openB D5).1 l6 ⟨(openB D5).2.next, nr, false⟩ (fun k => S5 k ∨ w6.heap.size ≤ k ∧ k < m7) r g u7 (openB D5).1 m7 ⟨(openB D5).2.next, nr, false⟩) (fun i _ => nr - (intOf i).toNat)
    case atStart => exact ⟨0, Nat.zero_le _, rfl, HR8.out, HD8.out⟩
    case round =>
      rename World => wq
      obtain ⟨q, hq, rfl, hRq, hDq⟩ := hrel
      have HRQ := hide hRq
      have HDQ := hide hDq
      clear hRq hDq
      by_cases hqn : q < nr
      · obtain ⟨a, xo, xl, xc, rfl, hca, xs, hox, hin⟩ := HRQ.out.at hqn
        have HOX := hide hox
        have HIN2 := hide hin
        clear hox hin
        go_wp2_with (go_at_call 18; refine (spoil_shape _ _ _ _ _ HOX.out).mono ?_; rintro e w9 ⟨rfl, ho9, hsh⟩; have HR9 := hide (HRQ.out.spoiled HOX.out ho9 hsh); have HD9 := hide (HDQ.out.only ho9 (fun j hj => HQ.out j (HOX.out.lt j hj).1 (HIN2.out j hj))); clear ho9 hsh)
        go_roundw
        case rel => exact ⟨q + 1, by omega, by go_num, HR9.out, HD9.out⟩
        case measure => simp [intOf]; omega
      · go_wp2
        exact HK.out _ _ _ _ _ _ _ _ _ _ _ _ _ _ _ _ _ _ _ _ _ _ _ _ _ _ _ _ _ _ _ _ _ _ _ _ _ _ _ _ _ _ _ _ _ _ _ _ _ _ _ _ _ _ _ _ _ _ _ _ _ _ _ _ _ _ _ _ _ _ _ _ _ _ _ _ _ _ _ _ _ _ _ _ _ _ _ _ _ _ _ _ _ _ _ _ _ _ _ _ _ _ _ _ _ _ _ _ _ _ _ _ _ _ _ _ _ _ _ _ _ _ _ _ _ _ _ _ _ _ _ _ _ _ _ _ _ _ _ _ _ _ _ _ _ _ _ _ _ _ _ _ _ _ _ _ _ _ _ _ _ _ _ _ _ _ _ _ _ _ _ _ _ _ _ _ _ _ _ _ _ _ _ _ _ _ _ _ (State.some _ _ _ _ _ _ _ HDQ.out HFW.out.2 (by show nr ≤ _; omega))
  · obtain rfl := hbad herr
    clear hok hbad
    go_wp2_with fail
    refine (ropen_any _ _ _ _ _ _ HB6.out.ref).mono ?_
    rintro e w7 hcase
    rcases hcase with ⟨-, rfl, u7, hR7⟩ | ⟨he0, -⟩
    · have HD7 := hide (HB6.out.right hR7)
      have s1 := run_conv_rd (P := Tryd.prog) (w := w7) Tryd.underlying28 Tryd.underlying5 Tryd.underlying9 (Rd.nil _)
      clear hR7
      generalize (openB D5).2.err = er
      go_wp2_with (go_at_call 27; refine (rsame_any [] [] _ _ _ (RdLs.nil _) (RdLs.nil _) (by simp) (by simp)).mono ?_; rintro e w8 ⟨rfl, B8⟩; rw [show decide (([] : List (List UInt8)) = []) = true by simp]; have HB8 := hide (HD7.out.grew B8); clear B8)
      go_loop [24] (fun i => i = .int .i64 0) (fun _ => 0)
      case atStart => rfl
      case round =>
        subst hrel
        go_wp2
        exact HK.out _ _ _ _ _ _ _ _ _ _ _ _ _ _ _ _ _ _ _ _ _ _ _ _ _ _ _ _ _ _ _ _ _ _ _ _ _ _ _ _ _ _ _ _ _ _ _ _ _ _ _ _ _ _ _ _ _ _ _ _ _ _ _ _ _ _ _ _ _ _ _ _ _ _ _ _ _ _ _ _ _ _ _ _ _ _ _ _ _ _ _ _ _ _ _ _ _ _ _ _ _ _ _ _ _ _ _ _ _ _ _ _ _ _ _ _ _ _ _ _ _ _ _ _ _ _ _ _ _ _ _ _ _ _ _ _ _ _ _ _ _ _ _ _ _ _ _ _ _ _ _ _ _ _ _ _ _ _ _ _ _ _ _ _ _ _ _ _ _ _ _ _ _ _ _ _ _ _ _ _ _ _ _ _ _ _ _ _ (State.none _ _ _ _ HB8.out)
    · exact absurd he0 herr

end Go.Proofs.YtgobnnciijlpaaaDoor
