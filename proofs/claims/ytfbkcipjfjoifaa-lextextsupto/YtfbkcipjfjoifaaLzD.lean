/- Layer 7's reference: Fold. -/
import Derived.Test.YtfbkcipjfjoifaaLzB
namespace Go.Proofs.Ytfbkcipjfjoifaa
open Go.ChangeShapes Go.WideShapes Go.ChangeAt Go.RowKit Go.DsMem Go.DsLx
set_option linter.unusedVariables false
theorem infoU8 : (Try.prog.info? 5).map (fun i => (i.zero, i.size, i.bytes)) = some (some (.int .u8 0), 1, 1) := by kernel_rfl
/-- bytes of one's own -/
structure BsOwn (w wr : World) (xs : List UInt8) (uo : Option Addr) (uc : Nat) : Prop where
  row : wr.ownsRow w.heap.size 5 1 (.slice uo xs.length uc) xs.length (bvs xs)
  below : Below w.heap.size w wr
theorem BsOwn.nil (w : World) : BsOwn w w [] none 0 := ⟨World.ownsRow_nil _ _ _ _, Below.refl _ _⟩
theorem BsOwn.grew {w wr w' : World} {xs : List UInt8} {uo : Option Addr} {uc : Nat} (h : BsOwn w wr xs uo uc) (hb : Below wr.heap.size wr w') : BsOwn w w' xs uo uc :=
  ⟨own_below h.row hb, h.below.trans (hb.mono h.below.size)⟩
theorem BsOwn.push {w wr w' : World} {xs : List UInt8} {uo : Option Addr} {uc : Nat} {x : UInt8} {v' : Value} (h : BsOwn w wr xs uo uc)
    (hown : w'.ownsRow w.heap.size 5 1 v' (xs.length + 1) (bvs xs ++ [bv x])) (hgr : wr.grownBy w' (Value.slice uo xs.length uc).ownBlock) : ∃ uo' uc', v' = .slice uo' (xs ++ [x]).length uc' ∧ BsOwn w w' (xs ++ [x]) uo' uc' := by
  have hlt := h.row.lt
  have hl : (xs ++ [x]).length = xs.length + 1 := by simp
  have hbel : Below w.heap.size w w' := h.below.trans ((Only.grown hgr).toBelow h.below.size (fun i hi => by have := (hlt i hi).1; omega))
  have er : bvs (xs ++ [x]) = bvs xs ++ [bv x] := by rw [bvs_append]; rfl
  rcases hown.2 with ⟨rfl, h0⟩ | ⟨g, cap, cur, rfl, r⟩
  · omega
  · exact ⟨some ⟨g, 0, none⟩, cap, by rw [hl], by rw [hl, er]; exact hown, hbel⟩
set_option maxHeartbeats 4000000 in
set_option maxRecDepth 20000 in
/-- dayshiftref07.Fold -/
theorem refFold (s : ByteArray) (w : World) (hs : s.size ≤ 140737488351232) : Calls Try.prog 16 #[.string s] w fun e w' => e = .returned (.string (foldS s)) ∧ Below w.heap.size w w' := by
  have hfs : foldS s = bstr (foldL s.data.toList) := rfl
  have hlen : (foldL s.data.toList).length = s.size := by simp [foldL]
  have HCV : Hid (∀ wr uo uc, BsOwn w wr (foldL s.data.toList) uo uc → (convert 46 9 (.slice uo s.size uc)).run Try.prog wr = .ok (.string (foldS s)) wr) := fun wr uo uc h => by
    have := run_conv_rd (P := Try.prog) (src := 46) (dst := 9) (e := 5) Try.underlying46 Try.underlying5 Try.underlying9 (Rd.own h.row)
    rw [hlen] at this
    exact this
  have HEL : Hid (∀ i (hi : i < s.size), (foldL s.data.toList).take (i + 1) = (foldL s.data.toList).take i ++ [foldB (s.data.toList.getD i 0)]) := fun i hi => by
    have hl : i < s.data.toList.length := by simpa using hi
    rw [List.take_add_one]
    congr 1
    simp only [foldL, List.getElem?_map, List.getElem?_eq_getElem hl, Option.map_some, Option.toList_some, List.getD, Option.getD_some]
  generalize foldS s = T at *
  generalize foldL s.data.toList = L at *
  clear hfs
  obtain ⟨i0, hi0, hz0, hz1, hz2⟩ := info_parts infoU8
  go_enter Try.func16, Try.ntmps16
  go_wp2
  go_loopw [3, 4] (fun tl ti wr => ∃ (i : Nat) (uo : Option Addr) (uc : Nat), i ≤ s.size ∧ tl = .slice uo (L.take i).length uc ∧ ti = .int .i64 i ∧ BsOwn w wr (L.take i) uo uc) (fun _ ti _ => s.size - (intOf ti).toNat)
  case atStart => exact ⟨0, none, 0, Nat.zero_le _, rfl, rfl, BsOwn.nil w⟩
  case round =>
    obtain ⟨i, uo, uc, hi, rfl, rfl, hst⟩ := hrel
    have HST := hide hst
    clear hst
    have hti : (L.take i).length = i := by rw [List.length_take]; omega
    rw [hti]
    by_cases hlt : i < s.size
    · have HB := hide (bAt_eq s i hlt)
      have hb := bAt_bd s i
      have HE := hide (HEL.out i hlt)
      have hN := foldB_N (s.data.toList.getD i 0)
      have hbe : ((s.data.toList.getD i 0).toNat : Int) = bAt s i := rfl
      rw [hbe] at hN
      generalize foldB (s.data.toList.getD i 0) = u at *
      have hws := HST.out.below.size
      have PUSH : Hid (∀ (x : Int) (v' : Value) (w6 : World), x = foldN (bAt s i) → w6.ownsRow w.heap.size 5 1 v' (i + 1) (bvs (L.take i) ++ [.int .u8 x]) → (wr.alloc (.cells #[.int .u8 x] 5)).grownBy w6 (Value.slice uo i uc).ownBlock → ∃ uo' uc', v' = .slice uo' (L.take (i + 1)).length uc' ∧ BsOwn w w6 (L.take (i + 1)) uo' uc') := fun x v' w6 hx h1 h2 => by
        have := (HST.out.grew ((Below.refl _ _).alloc (Nat.le_refl _) (.cells #[.int .u8 x] 5))).push (x := u) (v' := v') (w' := w6) (by rw [hti]; unfold bv; rw [hN, ← hx]; exact h1) (by rw [hti]; exact h2)
        rw [HE.out]
        exact this
      have ROW : Hid (∀ o, (wr.alloc o).ownsRow w.heap.size 5 1 (.slice uo i uc) i (bvs (L.take i))) := fun o => by
        have := (HST.out.grew ((Below.refl _ _).alloc (Nat.le_refl _) o)).row
        rw [hti] at this
        exact this
      have hl1 : (L.take (i + 1)).length = i + 1 := by rw [List.length_take]; omega
      clear hbe
      by_cases hu : 65 ≤ bAt s i ∧ bAt s i ≤ 90
      · have hf : bAt s i + 32 = foldN (bAt s i) := by unfold foldN; rw [if_pos hu]
        have HFN := hide hf
        obtain ⟨u1, u2⟩ := hu
        have hx := HB.out
        clear hf hN
        generalize bAt s i = n at *
        go_wp2_with (at_builtin; refine Hid.out ?_)
        refine hide ?_
        refine wpList_append_own _ rfl _ _ 46 rfl w.heap.size 5 i0 _ 1 1 Try.underlying46 hi0 hz0 hz1 hz2 rfl (by decide) _ i _ rfl (ROW.out _) ⟨wr.heap.size, 0, none⟩ 1 1 [.int .u8 (n + 32)] rfl rfl (World.news_of_block (cs := #[.int .u8 (n + 32)]) (t := 5) (fr := (0, 0)) (heap_alloc_new wr _)) (by intro u hu; simp only [List.mem_cons, List.not_mem_nil, or_false] at hu; subst hu; rfl) (by unfold maxLen; omega) (by omega) (by simp; omega) ?_
        intro v' w6 hown hgr _
        obtain ⟨uo2, uc2, rfl, hst6⟩ := PUSH.out (n + 32) v' w6 (by exact HFN.out) hown hgr
        have HST6 := hide hst6
        rw [hl1]
        clear hown hgr hst6
        go_wp2
        go_roundw
        case rel => exact ⟨i + 1, uo2, uc2, by omega, by rw [hl1], by go_num, HST6.out⟩
        case measure => simp [intOf]; omega
      · have hf : bAt s i = foldN (bAt s i) := by unfold foldN; rw [if_neg hu]
        have HFN := hide hf
        have hu' : bAt s i < 65 ∨ (65 ≤ bAt s i ∧ 90 < bAt s i) := by omega
        have hx := HB.out
        clear hf hN hu
        generalize bAt s i = n at *
        rcases hu' with u1 | ⟨u1, u2⟩
        · go_wp2_with (at_builtin; refine Hid.out ?_)
          refine hide ?_
          refine wpList_append_own _ rfl _ _ 46 rfl w.heap.size 5 i0 _ 1 1 Try.underlying46 hi0 hz0 hz1 hz2 rfl (by decide) _ i _ rfl (ROW.out _) ⟨wr.heap.size, 0, none⟩ 1 1 [.int .u8 (n)] rfl rfl (World.news_of_block (cs := #[.int .u8 (n)]) (t := 5) (fr := (0, 0)) (heap_alloc_new wr _)) (by intro u hu; simp only [List.mem_cons, List.not_mem_nil, or_false] at hu; subst hu; rfl) (by unfold maxLen; omega) (by omega) (by simp; omega) ?_
          intro v' w6 hown hgr _
          obtain ⟨uo2, uc2, rfl, hst6⟩ := PUSH.out (n) v' w6 (by exact HFN.out) hown hgr
          have HST6 := hide hst6
          rw [hl1]
          clear hown hgr hst6
          go_wp2
          go_roundw
          case rel => exact ⟨i + 1, uo2, uc2, by omega, by rw [hl1], by go_num, HST6.out⟩
          case measure => simp [intOf]; omega
        · go_wp2_with (at_builtin; refine Hid.out ?_)
          refine hide ?_
          refine wpList_append_own _ rfl _ _ 46 rfl w.heap.size 5 i0 _ 1 1 Try.underlying46 hi0 hz0 hz1 hz2 rfl (by decide) _ i _ rfl (ROW.out _) ⟨wr.heap.size, 0, none⟩ 1 1 [.int .u8 (n)] rfl rfl (World.news_of_block (cs := #[.int .u8 (n)]) (t := 5) (fr := (0, 0)) (heap_alloc_new wr _)) (by intro u hu; simp only [List.mem_cons, List.not_mem_nil, or_false] at hu; subst hu; rfl) (by unfold maxLen; omega) (by omega) (by simp; omega) ?_
          intro v' w6 hown hgr _
          obtain ⟨uo2, uc2, rfl, hst6⟩ := PUSH.out (n) v' w6 (by exact HFN.out) hown hgr
          have HST6 := hide hst6
          rw [hl1]
          clear hown hgr hst6
          go_wp2
          go_roundw
          case rel => exact ⟨i + 1, uo2, uc2, by omega, by rw [hl1], by go_num, HST6.out⟩
          case measure => simp [intOf]; omega
    · obtain rfl : i = s.size := by omega
      have e : L.take s.size = L := by rw [List.take_of_length_le]; omega
      rw [e] at HST
      have hcv := HCV.out wr uo uc HST.out
      go_wp2
      go_ret
      exact ⟨rfl, HST.out.below⟩
end Go.Proofs.Ytfbkcipjfjoifaa
