/- Package lex: the walk of Tokens. -/
import Derived.Test.YtkpgfhapffijkaaGreatDoorR08
import Derived.Deep.AppendLies
namespace Go.Proofs.YtkpgfhapffijkaaGreatDoor
open Go.ChangeShapes Go.WideShapes Go.ChangeAt Go.RowKit Go.DsMem Go.DsLx
set_option linter.unusedVariables false
def tkC (t : Tk) : List Value := [.int .i64 t.kind, .string t.text, .int .i64 t.n, .int .i64 t.at_]
def tkRow (l : List Tk) : List Value := l.flatMap tkC
theorem tkRow_snoc (l : List Tk) (t : Tk) : tkRow (l ++ [t]) = tkRow l ++ tkC t := by simp [tkRow]
theorem tkC_one (t : Tk) : ∀ u ∈ tkC t, u.oneCell' = true := by
  intro u hu
  simp only [tkC, List.mem_cons, List.not_mem_nil, or_false] at hu
  rcases hu with rfl | rfl | rfl | rfl <;> rfl
theorem infoTok : (Tryz.prog.info? 127).map (fun i => (i.zero, i.size, i.bytes)) = some (some (.agg #[.int .i64 0, .string ⟨#[]⟩, .int .i64 0, .int .i64 0]), 4, 40) := by kernel_rfl
theorem zeroInt (w : World) : (zeroValue 3).run Tryz.prog w = .ok (.int .i64 0) w := by kernel_rfl
theorem heap_keep' {w : World} {o : Obj} {k : Nat} {x : Obj} (h : w.heap[k]? = some x) : (w.alloc o).heap[k]? = some x := by
  rw [((Below.refl w.heap.size w).alloc (Nat.le_refl _) o).block k (block_lt h)]; exact h
/-- what Tokens holds: the map in B, the words so far -/
structure ToSt (w wr : World) (B : Nat) (U : List (Int × Bool × Int)) (acc : List Tk) (uo : Option Addr) (uc : Nat) : Prop where
  row : wr.ownsRow (B + 1) 127 4 (.slice uo acc.length uc) acc.length (tkRow acc)
  map : KM B U wr
  below : Below w.heap.size w wr
theorem ToSt.grew {w wr w' : World} {B : Nat} {U : List (Int × Bool × Int)} {acc : List Tk} {uo : Option Addr} {uc : Nat} (h : ToSt w wr B U acc uo uc) (hb : Below wr.heap.size wr w') : ToSt w w' B U acc uo uc := by
  refine ⟨?_, h.map.below hb, h.below.trans (hb.mono h.below.size)⟩
  refine ⟨h.row.1, ?_⟩
  rcases h.row.2 with h0 | ⟨g, cap, cur, hv, hbg, hg, r⟩
  · exact .inl h0
  · exact .inr ⟨g, cap, cur, hv, hbg, by rw [hb.block g (block_lt hg)]; exact hg, r⟩
theorem ToSt.push {w wr w' : World} {B : Nat} {U : List (Int × Bool × Int)} {acc : List Tk} {uo : Option Addr} {uc : Nat} {t : Tk} {v' : Value} (h : ToSt w wr B U acc uo uc) (hB : w.heap.size ≤ B)
    (hown : w'.ownsRow (B + 1) 127 4 v' (acc.length + 1) (tkRow acc ++ tkC t)) (hgr : wr.grownBy w' (Value.slice uo acc.length uc).ownBlock) : ∃ uo' uc', v' = .slice uo' (acc ++ [t]).length uc' ∧ ToSt w w' B U (acc ++ [t]) uo' uc' := by
  have hlt := h.row.lt
  have hl : (acc ++ [t]).length = acc.length + 1 := by simp
  have hmap : KM B U w' := h.map.same (hgr.block B h.map.lt (fun e => by have := (hlt B e.symm).1; omega))
  have hbel : Below w.heap.size w w' := h.below.trans ((Only.grown hgr).toBelow h.below.size (fun i hi => by have := (hlt i hi).1; omega))
  rcases hown.2 with ⟨rfl, h0⟩ | ⟨g, cap, cur, rfl, r⟩
  · omega
  · exact ⟨some ⟨g, 0, none⟩, cap, by rw [hl], by rw [hl, tkRow_snoc]; exact hown, hmap, hbel⟩
set_option maxHeartbeats 8000000 in
set_option maxRecDepth 20000 in
/-- lex.Tokens -/
theorem tokens_any (s : ByteArray) (w : World) (hs : s.size ≤ 140737488355328) : Calls Tryz.prog 28 #[.string s] w fun e w' =>
    ∃ uo uc, e = .returned (.tuple #[.slice uo (tokensF s).1.length uc, .int .i64 (tokensF s).2.1, .int .i64 (tokensF s).2.2]) ∧ w'.ownsRow (w.heap.size + 1) 127 4 (.slice uo (tokensF s).1.length uc) (tokensF s).1.length (tkRow (tokensF s).1) ∧ Below w.heap.size w w' := by
  obtain ⟨R, hR⟩ : ∃ R, tokensF s = R := ⟨_, rfl⟩
  rw [hR]
  by_cases hbig : 8192 < s.size
  · have hR2 : R = ([], 0, 3) := by rw [← hR]; unfold tokensF; rw [if_pos hbig]
    subst hR2
    clear hR
    go_enter Tryz.func28, Tryz.ntmps28
    go_wp2
    go_ret3
    exact ⟨none, 0, rfl, World.ownsRow_nil _ _ _ _, Below.refl _ _⟩
  · have HR : Hid (tokW s (wordE s 0) [] = R) := by refine hide ?_; rw [← hR]; unfold tokensF; rw [if_neg hbig]
    have hsz : s.size ≤ 8192 := by omega
    clear hR hbig
    have hw0 := wordE_bd s 0 (by omega)
    have HWA : Hid (∀ (j : Nat) (w : World), j ≤ s.size → Calls Tryz.prog 46 #[.string s, .int .i64 j] w fun e w' => e = .returned (.int .i64 (wordE s j)) ∧ w' = w) := fun j w hj => wordAt_any s j w (by omega) hj
    obtain ⟨i0, hi0, hz0, hz1, hz2⟩ := info_parts infoTok
    go_enter Tryz.func28, Tryz.ntmps28
    go_wp2_with fail
    refine (kinds_any w).mono ?_
    rintro e w1 ⟨rfl, ⟨⟨U, hkm, hU⟩, hb1⟩⟩
    have HU := hide hU
    have HS0 : Hid (ToSt w w1 w.heap.size U [] none 0) := ⟨World.ownsRow_nil _ _ _ _, hkm, hb1⟩
    clear hkm hU hb1
    go_wp2_with fail
    refine (HWA.out 0 _ (by omega)).mono ?_
    rintro e w1' ⟨rfl, rfl⟩
    generalize wordE s 0 = k0 at *
    obtain ⟨B, hB⟩ : ∃ B, B = w.heap.size := ⟨_, rfl⟩
    rw [← hB] at HS0 ⊢
    have HBE := hide hB
    clear hB
    have hd8 : decide ((8192 : Int) < (s.size : Int)) = false := by simp; omega
    go_wp2
    go_loopw [5, 7] (fun tl ta wr => ∃ (acc : List Tk) (k : Nat) (uo : Option Addr) (uc : Nat), acc.length ≤ k ∧ k ≤ s.size ∧ tl = .slice uo acc.length uc ∧ ta = .int .i64 k ∧ ToSt w wr B U acc uo uc ∧ tokW s k acc = R) (fun _ ta _ => s.size - (intOf ta).toNat)
    case atStart => exact ⟨[], k0, none, 0, Nat.zero_le _, hw0.2, rfl, rfl, HS0.out, HR.out⟩
    case round =>
      obtain ⟨acc, k, uo, uc, hal, hks, rfl, rfl, hst, htk⟩ := hrel
      have HST := hide hst
      have HTK := hide htk
      clear hst htk
      by_cases hlt : k < s.size
      · obtain ⟨f, hf⟩ : ∃ f, clsF (bAt s k) = f := ⟨_, rfl⟩
        obtain ⟨b, hb⟩ : ∃ b, colB s k = b := ⟨_, rfl⟩
        have hfb := clsF_bd (bAt s k)
        rw [hf] at hfb
        have hkb := kindF_bd f b
        have HSH : Hid (∀ w : World, Calls Tryz.prog 48 #[.string s, .int .i64 k] w fun e w' => e = .returned (shpV f b) ∧ Below w.heap.size w w') := fun w => by
          have := shapeOf_any s k w (by omega) hlt
          rw [hf, hb] at this
          exact this
        obtain ⟨Z, hZ⟩ : ∃ Z, rdF s k = Z := ⟨_, rfl⟩
        have HRDc : Hid (∀ w : World, Calls Tryz.prog 47 #[.string s, .int .i64 k, .int .i64 (kindF f b)] w fun e w' => e = tkE Z ∧ Below w.heap.size w w') := fun w => by
          have := read_any s k (kindF f b) w (by omega) hlt hkb.1 hkb.2
          rw [← hZ]
          unfold rdF
          rw [hf, hb]
          exact this
        have HBAD : Hid (Z.2 = false → R = ([], k, 20)) := fun h => by rw [← HTK.out]; exact tokW_bad acc hlt (by rw [hZ]; exact h)
        have HGO : Hid (Z.2 = true → tokW s (wordE s (k + Z.1.text.size)) (acc ++ [Z.1]) = R) := fun h => by
          have := tokW_step acc hlt (by rw [hZ]; exact h)
          rw [hZ] at this
          rw [← this]; exact HTK.out
        have HSZ : Hid (Z.2 = true → 1 ≤ Z.1.text.size ∧ k + Z.1.text.size ≤ s.size) := fun h => by
          have := rdF_size hlt (by rw [hZ]; exact h)
          rw [hZ] at this
          exact this
        clear hf hb hZ
        go_wp2_with fail
        refine (HSH.out _).mono ?_
        rintro e w2 ⟨rfl, hb2⟩
        have HST2 := hide (HST.out.grew hb2)
        clear hb2
        obtain ⟨n, D, hn, hown, hD, hat⟩ := HST2.out.map
        obtain ⟨kl, hkl⟩ := shp_key f b hfb.1 (by omega)
        have HOWN := hide hown
        have HKL := hide hkl
        have HAT := hide (hat f b kl hkl)
        clear hown hkl hat hD hn
        go_wp2_with (at_lookup; refine Hid.out ?_)
        refine hide ?_
        refine wpList_lookup_own_int _ rfl _ _ 123 rfl 131 3 .i64 shpLaw Tryz.underlying123 Tryz.underlying3 (zeroInt _) B n D rfl HOWN.out _ kl rfl HKL.out ?_
        intro c hc _
        obtain rfl : c = kindF f b := by
          have := HAT.out
          rw [hc, HU.out f b] at this
          simpa using this
        clear hc HOWN HKL HAT
        go_wp2_with fail
        refine (HRDc.out _).mono ?_
        unfold tkE
        rintro e w3 ⟨rfl, hb3⟩
        have HST3 := hide (HST2.out.grew hb3)
        clear hb3 HST2 HRDc
        obtain ⟨⟨kd, tx, nn, ta⟩, ok⟩ := Z
        cases ok with
        | false =>
          have hRe := HBAD.out rfl
          subst hRe
          go_wp2
          go_ret3
          exact ⟨none, 0, rfl, World.ownsRow_nil _ _ _ _, HST3.out.below.alloc HST3.out.below.size _⟩
        | true =>
          obtain ⟨sz1, sz2⟩ := HSZ.out rfl
          simp only at sz1 sz2
          have HGO2 := hide (HGO.out rfl)
          simp only at HGO2
          clear HBAD HGO HSZ
          go_wp2_with (at_builtin; refine Hid.out ?_)
          refine hide ?_
          obtain ⟨w4, hw4⟩ : ∃ w4, w4 = w3.alloc (.cells #[.int .i64 kd, .string tx, .int .i64 nn, .int .i64 ta] 127) := ⟨_, rfl⟩
          have HBX : Hid (w4.heap[w3.heap.size]? = some (.cells #[.int .i64 kd, .string tx, .int .i64 nn, .int .i64 ta] 127 (0, 0))) := by refine hide ?_; rw [hw4]; exact heap_alloc_new w3 _
          have HB4 : Hid (Below w3.heap.size w3 w4) := by refine hide ?_; rw [hw4]; exact (Below.refl _ _).alloc (Nat.le_refl _) _
          have hz4 : w4.heap.size = w3.heap.size + 1 := by rw [hw4]; simp
          rw [← hw4, ← hz4]
          clear hw4
          have HST5 := hide ((HST3.out.grew HB4.out).grew ((Below.refl w4.heap.size w4).alloc (Nat.le_refl _) (.cells #[.int .i64 kd, .string tx, .int .i64 nn, .int .i64 ta] 127)))
          have HOB : Hid (∀ q, (Value.slice uo acc.length uc).ownBlock = some q → q < w3.heap.size) := fun q hq => (HST3.out.row.lt q hq).2
          refine wpList_append_own _ rfl _ _ 81 rfl (B + 1) 127 i0 _ 4 40 Tryz.underlying81 hi0 hz0 hz1 hz2 rfl (by decide) _ acc.length (tkRow acc) rfl HST5.out.row ⟨w4.heap.size, 0, none⟩ 1 1 (tkC ⟨kd, tx, nn, ta⟩) rfl rfl (World.news_of_block (cs := #[.int .i64 kd, .string tx, .int .i64 nn, .int .i64 ta]) (t := 127) (fr := (0, 0)) (heap_alloc_new w4 _)) (tkC_one _) (by unfold maxLen; omega) (by omega) HST5.out.map.lt ?_
          intro v' w6 hown hgr _
          obtain ⟨uo', uc', rfl, hst6⟩ := HST5.out.push (t := ⟨kd, tx, nn, ta⟩) (by rw [HBE.out]; exact Nat.le_refl _) hown hgr
          have HST6 := hide hst6
          have hbx5 : (w4.alloc (.cells #[.int .i64 kd, .string tx, .int .i64 nn, .int .i64 ta] 127)).heap[w3.heap.size]? = _ := heap_keep' HBX.out
          have hbx6 : w6.heap[w3.heap.size]? = _ := (hgr.block w3.heap.size (by simp; omega) (fun e => by have := HOB.out _ e.symm; omega)).trans hbx5
          have x1 : w6.cell? ⟨w3.heap.size, 1, none⟩ = some (.string tx) := by rw [cell_of hbx6]; rfl
          clear hown hgr hst6 hbx5 hbx6
          have HWB := hide (wordE_bd s (k + tx.size) sz2)
          have HW6 := hide (HWA.out (k + tx.size) w6 sz2)
          rw [show ((k + tx.size : Nat) : Int) = (k : Int) + tx.size by omega] at HW6
          generalize wordE s (k + tx.size) = k2 at *
          go_wp2_with fail
          refine HW6.out.mono ?_
          rintro e w7 ⟨rfl, rfl⟩
          go_wp2
          go_roundw
          case rel => exact ⟨acc ++ [⟨kd, tx, nn, ta⟩], k2, uo', uc', by have := HWB.out; simp; omega, HWB.out.2, by simp, rfl, HST6.out, HGO2.out⟩
          case measure => have := HWB.out; simp [intOf]; omega
      · have hRe : R = (acc, 0, 0) := by rw [← HTK.out]; exact tokW_end acc hlt
        subst hRe
        go_wp2
        go_ret3
        exact ⟨uo, uc, rfl, by rw [← HBE.out]; exact HST.out.row, HST.out.below⟩
end Go.Proofs.YtkpgfhapffijkaaGreatDoor
