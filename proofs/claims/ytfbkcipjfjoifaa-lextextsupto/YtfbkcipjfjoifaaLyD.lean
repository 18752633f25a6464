/- Package lex: Join (words as a source). -/
import Derived.Test.YtfbkcipjfjoifaaLyB
import Derived.Test.YtfbkcipjfjoifaaShelf
namespace Go.Proofs.Ytfbkcipjfjoifaa
open Go.ChangeShapes Go.WideShapes Go.ChangeAt Go.RowKit Go.DsMem Go.DsLx
set_option linter.unusedVariables false
theorem infoStr : (Try.prog.info? 9).map (fun i => (i.zero, i.size, i.bytes)) = some (some (.string ⟨#[]⟩), 1, 16) := by kernel_rfl
def sxRow (xs : List ByteArray) : List Value := xs.map .string
theorem sx_one (x : ByteArray) : ∀ u ∈ [Value.string x], u.oneCell' = true := by
  intro u hu
  simp only [List.mem_cons, List.not_mem_nil, or_false] at hu
  subst hu; rfl
/-- texts of one's own -/
structure SxOwn (w wr : World) (xs : List ByteArray) (uo : Option Addr) (uc : Nat) : Prop where
  row : wr.ownsRow w.heap.size 9 1 (.slice uo xs.length uc) xs.length (sxRow xs)
  below : Below w.heap.size w wr
theorem SxOwn.nil (w : World) : SxOwn w w [] none 0 := ⟨World.ownsRow_nil _ _ _ _, Below.refl _ _⟩
theorem SxOwn.grew {w wr w' : World} {xs : List ByteArray} {uo : Option Addr} {uc : Nat} (h : SxOwn w wr xs uo uc) (hb : Below wr.heap.size wr w') : SxOwn w w' xs uo uc := by
  refine ⟨⟨h.row.1, ?_⟩, h.below.trans (hb.mono h.below.size)⟩
  rcases h.row.2 with h0 | ⟨g, cap, cur, hv, hbg, hg, r⟩
  · exact .inl h0
  · exact .inr ⟨g, cap, cur, hv, hbg, by rw [hb.block g (block_lt hg)]; exact hg, r⟩
theorem SxOwn.push {w wr w' : World} {xs : List ByteArray} {uo : Option Addr} {uc : Nat} {x : ByteArray} {v' : Value} (h : SxOwn w wr xs uo uc)
    (hown : w'.ownsRow w.heap.size 9 1 v' (xs.length + 1) (sxRow xs ++ [.string x])) (hgr : wr.grownBy w' (Value.slice uo xs.length uc).ownBlock) : ∃ uo' uc', v' = .slice uo' (xs ++ [x]).length uc' ∧ SxOwn w w' (xs ++ [x]) uo' uc' := by
  have hlt := h.row.lt
  have hl : (xs ++ [x]).length = xs.length + 1 := by simp
  have hbel : Below w.heap.size w w' := h.below.trans ((Only.grown hgr).toBelow h.below.size (fun i hi => by have := (hlt i hi).1; omega))
  have er : sxRow (xs ++ [x]) = sxRow xs ++ [.string x] := by simp [sxRow]
  rcases hown.2 with ⟨rfl, h0⟩ | ⟨g, cap, cur, rfl, r⟩
  · omega
  · exact ⟨some ⟨g, 0, none⟩, cap, by rw [hl], by rw [hl, er]; exact hown, hbel⟩
theorem SxOwn.cells {w wr : World} {xs : List ByteArray} {uo : Option Addr} {uc : Nat} (h : SxOwn w wr xs uo uc) (h0 : 0 < xs.length) : ∃ g, uo = some ⟨g, 0, none⟩ ∧ xs.length ≤ uc ∧ g < wr.heap.size ∧ ∀ (j : Nat) x, xs[j]? = some x → wr.cell? ⟨g, 0 + j, none⟩ = some (.string x) := by
  rcases h.row.2 with ⟨_, hz⟩ | ⟨g, cap, cur, e, hb, hg, hc, _⟩
  · omega
  · simp only [Value.slice.injEq] at e
    obtain ⟨rfl, -, rfl⟩ := e
    refine ⟨g, rfl, hc, block_lt hg, fun j x hx => ?_⟩
    have := h.row.cells (g := g) rfl j (.string x) (by unfold sxRow; rw [List.getElem?_map, hx]; rfl)
    rw [add_mk] at this
    exact this
/-- texts with a blank between any two -/
def joinB (xs : List ByteArray) : ByteArray := ⟨(Lib.join (xs.map (·.data.toList)) [32]).toArray⟩
/-- strings.Join of texts of one's own -/
theorem join_own (w wr : World) (xs : List ByteArray) (uo : Option Addr) (uc : Nat) (h : SxOwn w wr xs uo uc) (hl : xs.length ≤ 1000000000000) (hj : (joinB xs).size ≤ 140737488355328) :
    Calls Try.prog 21 #[.slice uo xs.length uc, .string ⟨#[32]⟩] wr fun e w' => e = .returned (.string (joinB xs)) ∧ Below wr.heap.size wr w' := by
  by_cases h0 : 0 < xs.length
  · obtain ⟨g, rfl, hc, hg, hcells⟩ := h.cells h0
    exact Try.strings_Join g 0 uc xs ⟨#[32]⟩ wr hcells hg (by omega) hc (by simpa [joinB, ByteArray.size] using hj)
  · obtain rfl : xs = [] := List.eq_nil_of_length_eq_zero (by omega)
    refine (Try.strings_Join_none uo uc ⟨#[32]⟩ wr).mono ?_
    rintro e w' ⟨rfl, rfl⟩
    exact ⟨rfl, Below.refl _ _⟩
set_option maxHeartbeats 4000000 in
set_option maxRecDepth 20000 in
/-- lex.Join -/
theorem lexJoin_any (l : List Tk) (uo : Option Addr) (uc o : Nat) (w : World) (hl : l.length ≤ 1000000000000) (hat : TkAt w uo uc o l) (hj : (joinB (l.map (·.text))).size ≤ 140737488355328) :
    Calls Try.prog 11 #[.slice uo l.length uc] w fun e w' => e = .returned (.string (joinB (l.map (·.text)))) ∧ Below w.heap.size w w' := by
  have HAT := hide hat
  have HJ : Hid (∀ wr uo' uc', SxOwn w wr (l.map (·.text)) uo' uc' → Calls Try.prog 21 #[.slice uo' l.length uc', .string ⟨#[32]⟩] wr fun e w' => e = .returned (.string (joinB (l.map (·.text)))) ∧ Below wr.heap.size wr w') := fun wr uo' uc' h => by
    have := join_own w wr (l.map (·.text)) uo' uc' h (by simpa using hl) hj
    rw [List.length_map] at this
    exact this
  clear hat hj
  obtain ⟨i0, hi0, hz0, hz1, hz2⟩ := info_parts infoStr
  go_enter Try.func11, Try.ntmps11
  go_wp2
  go_loopw [3, 8] (fun tl ti wr => ∃ (i : Nat) (uo' : Option Addr) (uc' : Nat), i ≤ l.length ∧ tl = .slice uo' ((l.take i).map (·.text)).length uc' ∧ ti = .int .i64 i ∧ SxOwn w wr ((l.take i).map (·.text)) uo' uc') (fun _ ti _ => l.length - (intOf ti).toNat)
  case atStart => exact ⟨0, none, 0, Nat.zero_le _, rfl, rfl, SxOwn.nil w⟩
  case round =>
    obtain ⟨i, uo', uc', hi, rfl, rfl, hst⟩ := hrel
    have HST := hide hst
    clear hst
    have hti : ((l.take i).map (·.text)).length = i := by rw [List.length_map, List.length_take]; omega
    by_cases hlt : i < l.length
    · obtain ⟨t, ht⟩ : ∃ t, l[i]? = some t := ⟨_, List.getElem?_eq_getElem hlt⟩
      obtain ⟨g, rfl, hc, hg, hcells⟩ := HAT.out (by omega)
      obtain ⟨a0, a1, a2, a3⟩ := hcells i t ht
      have b0 := Below.keeps HST.out.below (Nat.le_refl _) a0
      have b1 := Below.keeps HST.out.below (Nat.le_refl _) a1
      have b2 := Below.keeps HST.out.below (Nat.le_refl _) a2
      have b3 := Below.keeps HST.out.below (Nat.le_refl _) a3
      have htk : (l.take (i + 1)).map (·.text) = (l.take i).map (·.text) ++ [t.text] := by rw [List.take_add_one, ht]; simp
      clear hcells a0 a1 a2 a3
      obtain ⟨kd, tx, nn, ta⟩ := t
      simp only at b0 b1 b2 b3 htk
      rw [hti]
      go_wp2_with (at_builtin; refine Hid.out ?_)
      refine hide ?_
      obtain ⟨w4, hw4⟩ : ∃ w4, w4 = wr.alloc (.cells #[.int .i64 kd, .string tx, .int .i64 nn, .int .i64 ta] 39) := ⟨_, rfl⟩
      have HB4 : Hid (Below wr.heap.size wr w4) := by refine hide ?_; rw [hw4]; exact (Below.refl _ _).alloc (Nat.le_refl _) _
      have hz4 : w4.heap.size = wr.heap.size + 1 := by rw [hw4]; simp
      rw [← hw4, ← hz4]
      clear hw4
      have HST5 := hide ((HST.out.grew HB4.out).grew ((Below.refl w4.heap.size w4).alloc (Nat.le_refl _) (.cells #[.string tx] 9)))
      have hws : w.heap.size ≤ wr.heap.size := HST.out.below.size
      have hrow := HST5.out.row
      rw [hti] at hrow
      refine wpList_append_own _ rfl _ _ 44 rfl w.heap.size 9 i0 _ 1 16 Try.underlying44 hi0 hz0 hz1 hz2 rfl (by decide) _ i _ rfl hrow ⟨w4.heap.size, 0, none⟩ 1 1 [.string tx] rfl rfl (World.news_of_block (cs := #[.string tx]) (t := 9) (fr := (0, 0)) (heap_alloc_new w4 _)) (sx_one _) (by unfold maxLen; omega) (by omega) (by simp; omega) ?_
      intro v' w6 hown hgr _
      obtain ⟨uo2, uc2, rfl, hst6⟩ := HST5.out.push (x := tx) (by rw [hti]; exact hown) (by rw [hti]; exact hgr)
      rw [← htk] at hst6
      have HST6 := hide hst6
      have hl2 : ((l.take i).map (·.text) ++ [tx]).length = i + 1 := by rw [List.length_append, hti]; rfl
      rw [hl2]
      clear hown hgr hst6 hrow
      go_wp2
      go_roundw
      case rel => exact ⟨i + 1, uo2, uc2, by omega, by rw [htk, hl2], rfl, HST6.out⟩
      case measure => simp [intOf]; omega
    · have e : i = l.length := by omega
      subst e
      rw [List.take_length] at HST hti ⊢
      go_wp2_with fail
      rw [hti]
      refine (HJ.out _ _ _ HST.out).mono ?_
      rintro e w2 ⟨rfl, hb2⟩
      go_wp2
      go_ret
      exact ⟨rfl, HST.out.below.trans (hb2.mono HST.out.below.size)⟩
end Go.Proofs.Ytfbkcipjfjoifaa
