/- Some parts of the proof, one behind the other. -/
import Derived.Test.YtkpgfhapffijkaaDoorJ19
/- Package jdl: a part of a job that stands once, whole. -/
namespace Go.Proofs.YtkpgfhapffijkaaDoor
open Go.ChangeShapes Go.WideShapes Go.ChangeAt Go.RowKit Go.DsMem Go.DsLx Go.DsJd Go.DsMk
set_option linter.unusedVariables false
set_option maxHeartbeats 8000000 in
set_option maxRecDepth 20000 in
theorem singleBad {w : World} {R J b0 : Nat} {E : Int} {B N : Nat} {ws : List Tk} (h : Rdr w R E 0 B N ws)
    (m1 : ¬ textF ws = wDays) (m2 : ¬ textF ws = wShift) (m3 : ¬ textF ws = wWindow) (m4 : ¬ textF ws = wIn) (m5 : ¬ textF ws = wPrio) (m6 : ¬ textF ws = wWait) (m7 : ¬ textF ws = wEvery) (m8 : ¬ textF ws = wRuns) (m9 : ¬ textF ws = wRetry) :
    Calls Tryd.prog 59 #[.pointer (some ⟨R, 0, none⟩), .pointer (some ⟨J, 0, none⟩)] w (SG R E B N J b0 (.error (atF E ws, 20)) w) := by
  have HT := hide (text_any h)
  have HF := hide (fault_any h 20)
  have n1 := str_ne2 [100, 97, 121, 115] m1
  have n2 := str_ne2 [115, 104, 105, 102, 116] m2
  have n3 := str_ne2 [119, 105, 110, 100, 111, 119] m3
  have n4 := str_ne2 [105, 110] m4
  have n5 := str_ne2 [112, 114, 105, 111] m5
  have n6 := str_ne2 [119, 97, 105, 116] m6
  have n7 := str_ne2 [101, 118, 101, 114, 121] m7
  have n8 := str_ne2 [114, 117, 110, 115] m8
  have n9 := str_ne2 [114, 101, 116, 114, 121] m9
  clear h m1 m2 m3 m4 m5 m6 m7 m8 m9
  unfold SG Ends
  simp only
  generalize textF ws = y at *
  go_enter Tryd.func59, Tryd.ntmps59
  go_wp2_with fail
  refine HT.out.mono ?_
  rintro e w1 ⟨rfl, rfl⟩
  go_wp2_with fail
  refine HF.out.mono ?_
  rintro e w2 ⟨rfl, hb⟩
  have HB := hide hb
  clear hb
  go_wp2
  exact ⟨rfl, rfl, Only.below HB.out⟩
/-- (*jdl.reader).single -/
theorem single_any {w : World} {R J b0 : Nat} {E : Int} {B N : Nat} {ws : List Tk} (h : Rdr w R E 0 B N ws) (hG : Few9 ws) {x : Jb} {s : JSl} (hj : JbAt b0 w J x s) (hNJ : N ≤ J) :
    Calls Tryd.prog 59 #[.pointer (some ⟨R, 0, none⟩), .pointer (some ⟨J, 0, none⟩)] w (SG R E B N J b0 (singleP E x ws) w) := by
  unfold singleP
  cases ws with
  | nil =>
    rw [if_neg (by decide), if_neg (by decide), if_neg (by decide), if_neg (by decide), if_neg (by decide), if_neg (by decide), if_neg (by decide), if_neg (by decide), if_neg (by decide)]
    exact singleBad h (by decide) (by decide) (by decide) (by decide) (by decide) (by decide) (by decide) (by decide) (by decide)
  | cons t r =>
    have hGr : Few9 r := hG.suf (List.suffix_cons t r)
    simp only [List.tail_cons]
    by_cases c1 : textF (t :: r) = wDays
    · rw [if_pos c1]; exact singleDays h hGr c1 hj hNJ
    rw [if_neg c1]
    by_cases c2 : textF (t :: r) = wShift
    · rw [if_pos c2]; exact singleShift h hGr c2 hj hNJ
    rw [if_neg c2]
    by_cases c3 : textF (t :: r) = wWindow
    · rw [if_pos c3]; exact singleWindow h hGr c3 hj hNJ
    rw [if_neg c3]
    by_cases c4 : textF (t :: r) = wIn
    · rw [if_pos c4]; exact singleIn h hGr c4 hj hNJ
    rw [if_neg c4]
    by_cases c5 : textF (t :: r) = wPrio
    · rw [if_pos c5]; exact singlePrio h hGr c5 hj hNJ
    rw [if_neg c5]
    by_cases c6 : textF (t :: r) = wWait
    · rw [if_pos c6]; exact singleWait h hGr c6 hj hNJ
    rw [if_neg c6]
    by_cases c7 : textF (t :: r) = wEvery
    · rw [if_pos c7]; exact singleEvery h hGr c7 hj hNJ
    rw [if_neg c7]
    by_cases c8 : textF (t :: r) = wRuns
    · rw [if_pos c8]; exact singleRuns h hGr c8 hj hNJ
    rw [if_neg c8]
    by_cases c9 : textF (t :: r) = wRetry
    · rw [if_pos c9]; exact singleRetry h hGr c9 hj hNJ
    rw [if_neg c9]
    exact singleBad h c1 c2 c3 c4 c5 c6 c7 c8 c9
end Go.Proofs.YtkpgfhapffijkaaDoor

/- Package jdl: a part of a job: those that stand once. -/
namespace Go.Proofs.YtkpgfhapffijkaaDoor
open Go.ChangeShapes Go.WideShapes Go.ChangeAt Go.RowKit Go.DsMem Go.DsLx Go.DsJd Go.DsMk
set_option linter.unusedVariables false
abbrev wOut : ByteArray := ⟨#[111, 117, 116]⟩
abbrev wNeed : ByteArray := ⟨#[110, 101, 101, 100]⟩
abbrev wUse : ByteArray := ⟨#[117, 115, 101]⟩
/-- blocks that a part may turn -/
abbrev TJ (R B J b0 i : Nat) : Prop := i = R ∨ i = B ∨ i = J ∨ b0 ≤ i
/-- how part ends -/
def PT (R : Nat) (E : Int) (B N J b0 : Nat) (q : Except Fl ((Jb × List (Int × ByteArray)) × List Tk)) (w : World) : Ending → World → Prop :=
  Ends q (fun w' => Only (TJ R B J b0) w w') fun p e w' => e = .returned (.tuple #[]) ∧ (∃ s', JbAt b0 w' J p.1.1 s') ∧ StM w' B p.1.2 ∧ Rdr w' R E 0 B N p.2 ∧ Only (TJ R B J b0) w w'
open Classical in
noncomputable def restP (E : Int) (k : Int) (S : List (Int × ByteArray)) (x : Jb) (ws : List Tk) : Except Fl ((Jb × List (Int × ByteArray)) × List Tk) :=
  if (k, textF ws) ∈ S then .error (atF E ws, 22) else match singleP E x ws with | .error f => .error f | .ok (x', r) => .ok ((x', (k, textF ws) :: S), r)
set_option maxHeartbeats 8000000 in
set_option maxRecDepth 20000 in
theorem part_rest {w : World} {R J b0 : Nat} {E : Int} {B N : Nat} {ws : List Tk} (h : Rdr w R E 0 B N ws) (hG : Few9 ws) {x : Jb} {s : JSl} (hj : JbAt b0 w J x s) (hNJ : N ≤ J) (hBJ : B < J) (k : Int) (S : List (Int × ByteArray)) (hs : StM w B S) (hf : fitS (k, textF ws)) (hS : S.length ≤ 100000)
    (m1 : ¬ textF ws = wOut) (m2 : ¬ textF ws = wNeed) (m3 : ¬ textF ws = wUse) :
    Calls Tryd.prog 48 #[.pointer (some ⟨R, 0, none⟩), .pointer (some ⟨J, 0, none⟩), .int .i64 k] w (PT R E B N J b0 (restP E k S x ws) w) := by
  obtain ⟨hN1, hN2⟩ := h.n
  have hlt := hj.lt
  have hle := hj.le
  obtain ⟨wb, hwb⟩ : ∃ wb, wb = w.alloc (.cells #[.pointer (some ⟨R, 0, none⟩)] 35) := ⟨_, rfl⟩
  have hOb : Only (fun _ => False) w wb := by rw [hwb]; exact Only.alloc _ _ _
  have bx : wb.cell? ⟨w.heap.size, 0, none⟩ = some (.pointer (some ⟨R, 0, none⟩)) := by rw [hwb, World.cell?_alloc_mark]; rfl
  have hsb : wb.heap.size = w.heap.size + 1 := by rw [hwb]; simp
  have hrb : Rdr wb R E 0 B N ws := by rw [hwb]; exact h.below (below_new4 _)
  have hjb := hj.moved hOb (fun b e => e.elim)
  have hsb2 : StM wb B S := by rw [hwb]; exact hs.below ((Below.refl _ _).alloc (Nat.le_refl _) _)
  have HT := hide (text_any hrb)
  have HO := hide (once_any hrb S hsb2 k hf hS)
  have HSG : Hid (∀ w', Rdr w' R E 0 B N ws → JbAt b0 w' J x s → Calls Tryd.prog 59 #[.pointer (some ⟨R, 0, none⟩), .pointer (some ⟨J, 0, none⟩)] w' (SG R E B N J b0 (singleP E x ws) w')) := fun w' h1 h2 => single_any h1 hG h2 hNJ
  have HBR : Hid (¬ B = R) := hide (fun e => by obtain ⟨es, clock, hm⟩ := hs.map; obtain ⟨uo, uc, o, h1, _⟩ := h; rw [e, h1] at hm; cases hm)
  have n1 := str_ne2 [111, 117, 116] m1
  have n2 := str_ne2 [110, 101, 101, 100] m2
  have n3 := str_ne2 [117, 115, 101] m3
  have HJB := hide hjb
  have HOB := hide (hOb.mono (T := TJ R B J b0) (fun _ _ e => e.elim))
  clear h hG hj hs hf hS m1 m2 m3 hrb hjb hsb2 hOb
  unfold restP
  unfold Onced at HO
  generalize textF ws = y at *
  by_cases hin : (k, y) ∈ S
  · rw [if_pos hin]
    unfold PT Ends
    simp only
    have HIN := hide hin
    clear HSG hin
    go_enter Tryd.func48, Tryd.ntmps48
    go_wp2_with fail
    rw [← hwb]
    clear hwb
    go_wp2_with fail
    refine HT.out.mono ?_
    rintro e w1 ⟨rfl, rfl⟩
    go_wp2_with fail
    refine HO.out.mono ?_
    intro e w2 hz
    rcases hz with ⟨_, rfl, ho⟩ | ⟨hn, _⟩
    · have HO2 := hide (HOB.out.trans (ho.mono (T := TJ R B J b0) (fun i _ e => by rcases e with e | e; exact .inl e; exact .inr (.inl e))) (fun _ _ h => h))
      clear ho
      go_wp2
      exact ⟨rfl, rfl, HO2.out⟩
    · exact absurd HIN.out hn
  · rw [if_neg hin]
    have HIN := hide hin
    clear hin
    unfold SG at HSG
    generalize singleP E x ws = q at *
    go_enter Tryd.func48, Tryd.ntmps48
    go_wp2_with fail
    rw [← hwb]
    clear hwb
    go_wp2_with fail
    refine HT.out.mono ?_
    rintro e w1 ⟨rfl, rfl⟩
    go_wp2_with fail
    refine HO.out.mono ?_
    intro e w2 hz
    rcases hz with ⟨hn, _⟩ | ⟨_, rfl, hsm, hr, ho⟩
    · exact absurd hn HIN.out
    · have hsz2 := ho.size
      have bx2 := ho.cell bx (fun e => by rcases e with e | e <;> (change w.heap.size = _ at e; omega))
      have HSM := hide hsm
      have HR := hide hr
      have HJ2 := hide (HJB.out.moved ho (fun b e => by rcases e with e | e <;> omega))
      have HO2 := hide (HOB.out.trans (ho.mono (T := TJ R B J b0) (fun i _ e => by rcases e with e | e; exact .inl e; exact .inr (.inl e))) (fun _ _ h => h))
      clear hsm hr ho bx
      go_wp2_with fail
      refine (HSG.out _ HR.out HJ2.out).mono ?_
      intro e w3 hz
      cases q with
      | error f =>
        obtain ⟨rfl, ho3⟩ := hz
        have HO3 := hide (HO2.out.trans (ho3.mono (T := TJ R B J b0) (fun i _ e => by rcases e with e | e; exact .inl e; exact .inr (.inr (.inl e)))) (fun _ _ h => h))
        clear ho3
        go_wp2
        exact ⟨rfl, rfl, HO3.out⟩
      | ok p =>
        obtain ⟨x', r'⟩ := p
        obtain ⟨rfl, hj3, hr3, ho3⟩ := hz
        have HO3 := hide (HO2.out.trans (ho3.mono (T := TJ R B J b0) (fun i _ e => by rcases e with e | e; exact .inl e; exact .inr (.inr (.inl e)))) (fun _ _ h => h))
        have HSM3 := hide (HSM.out.only ho3 (fun e => e.elim (fun e => HBR.out e) (fun e => by omega)))
        have HR3 := hide hr3
        have HJ3 := hide hj3
        clear ho3 hr3 hj3
        go_wp2
        go_end0
        exact ⟨rfl, HJ3.out, HSM3.out, HR3.out, HO3.out⟩
end Go.Proofs.YtkpgfhapffijkaaDoor

/- Package jdl: a job gets a need. -/
namespace Go.Proofs.YtkpgfhapffijkaaDoor
open Go.ChangeShapes Go.WideShapes Go.ChangeAt Go.RowKit Go.DsMem Go.DsLx Go.DsJd Go.DsMk
set_option linter.unusedVariables false
theorem infoNeed : (Tryd.prog.info? 111).map (fun i => (i.zero, i.size, i.bytes)) = some (some (.agg #[.string ⟨#[]⟩, .int .i64 0, .int .i64 0]), 3, 32) := by kernel_rfl
theorem nvC3_one (p : Nv) : ∀ u ∈ nvC3 p, u.oneCell' = true := by
  intro u hu
  simp only [nvC3, List.mem_cons, List.not_mem_nil, or_false] at hu
  rcases hu with rfl | rfl | rfl <;> rfl
theorem nvRow_snoc (l : List Nv) (p : Nv) : nvRow (l ++ [p]) = nvRow l ++ nvC3 p := by simp [nvRow]
theorem JbAt.addNeed {b0 J : Nat} {w2 w3 : World} {x : Jb} {s : JSl} (h : JbAt b0 w2 J x s) (a : Nv) (o : Obj) {g cap : Nat}
    (hown : w3.ownsRow b0 111 3 (.slice (some ⟨g, 0, none⟩) (x.needs.length + 1) cap) (x.needs.length + 1) (nvRow x.needs ++ nvC3 a))
    (hgr : (w2.alloc o).grownBy w3 (jNeeds x s).ownBlock) (hat : (jNeeds x s).ownBlock = some g ∨ g = w2.heap.size + 1) (hlt3 : g < w3.heap.size) :
    JbAt b0 (w3.setCell ⟨J, 18, none⟩ (.slice (some ⟨g, 0, none⟩) (x.needs.length + 1) cap)) J { x with needs := x.needs ++ [a] } { s with no := some ⟨g, 0, none⟩, nc := cap } := by
  have hl := h.lt
  have hle := h.le
  have hA : Only (fun k => (jNeeds x s).ownBlock = some k) w2 w3 := (Only.alloc _ w2 o).trans (Only.grown hgr) (fun i _ hi => hi)
  have hrow := h.needs.lt
  have hrow2 := h.outs.lt
  have hB : Only (fun k => (jNeeds x s).ownBlock = some k ∨ k = J) w2 (w3.setCell ⟨J, 18, none⟩ (.slice (some ⟨g, 0, none⟩) (x.needs.length + 1) cap)) := (hA.mono (fun _ _ e => .inl e)).trans (Only.set w3 J 18 _) (fun _ _ e => .inr e)
  have hgJ : g ≠ J := by
    rcases hat with c | c
    · have := (hrow _ c).1; omega
    · omega
  have hb3 : w3.heap[J]? = some (.cells (jC x s) 48 (0, 0)) := by
    rw [hA.block J (by omega) (fun e => by have := (hrow _ e).1; omega)]; exact h.blk
  have hl1 : (x.needs ++ [a]).length = x.needs.length + 1 := by simp
  have e1 : jOuts { x with needs := x.needs ++ [a] } { s with no := some ⟨g, 0, none⟩, nc := cap } = jOuts x s := rfl
  have e2 : jNeeds { x with needs := x.needs ++ [a] } { s with no := some ⟨g, 0, none⟩, nc := cap } = .slice (some ⟨g, 0, none⟩) (x.needs.length + 1) cap := by unfold jNeeds; simp only; rw [hl1]
  have hne : ∀ b, b < w2.heap.size → (jNeeds x s).ownBlock ≠ some b → b ≠ g := fun b hb hn e => by
    rcases hat with c | c
    · exact hn (by rw [e]; exact c)
    · omega
  have h1 : ∀ b, JR b0 w2 x s b → JR b0 (w3.setCell ⟨J, 18, none⟩ (.slice (some ⟨g, 0, none⟩) (x.needs.length + 1) cap)) { x with needs := x.needs ++ [a] } { s with no := some ⟨g, 0, none⟩, nc := cap } b := fun b hb => by
    refine ⟨hb.1, Nat.lt_of_lt_of_le hb.2.1 hB.size, ?_, ?_⟩
    · rw [e1]; exact hb.2.2.1
    · rw [e2]
      intro e
      exact hne b hb.2.1 hb.2.2.2 (Option.some.inj e).symm
  have h2 : ∀ ad u, JR b0 w2 x s ad.block → w2.cell? ad = some u → (w3.setCell ⟨J, 18, none⟩ (.slice (some ⟨g, 0, none⟩) (x.needs.length + 1) cap)).cell? ad = some u := fun ad u hb hc => hB.cell hc (fun e => by
    rcases e with e | e
    · exact hb.2.2.2 e
    · have := hb.1; omega)
  refine ⟨?_, hl, Nat.le_trans hle hB.size, h.days.mono h1 h2, h.work.mono h1 h2, h.inn.mono h1 h2, ?_, ?_, ?_⟩
  · rw [hset_same hb3]
    unfold jC
    simp only [hl1]
    kernel_rfl
  · rw [e1]
    exact own_sameK h.outs (fun k hk => hB.block k (hrow2 k hk).2 (fun e => by
      rcases e with e | e
      · exact h.apart k hk e
      · have := (hrow2 k hk).1; omega))
  · rw [e2]
    simp only
    rw [hl1, nvRow_snoc]
    exact own_sameK hown (fun k hk => by
      have : g = k := Option.some.inj hk
      subst this
      exact (Only.set w3 J 18 _).block g hlt3 hgJ)
  · rw [e1, e2]
    intro k hk e
    have : g = k := Option.some.inj e
    subst this
    exact hne g (hrow2 g hk).2 (h.apart g hk) rfl
theorem saidNeed1 {w : World} {R : Nat} {E : Int} {B N : Nat} {t : Tk} {r : List Tk} (h : Rdr w R E 0 B N (t :: r)) :
    Calls Tryd.prog 56 #[.pointer (some ⟨R, 0, none⟩), .func (.func 57) #[.pointer (some ⟨R, 0, none⟩)] #[]] w (PE R E 0 B N (thenP E ⟨#[59]⟩ (twoP (nameP E) (numP E) r)) VNeed w) := by
  refine saidNeed h 57 #[.pointer (some ⟨R, 0, none⟩)] #[] (twoP (nameP E) (numP E)) VNeed (cf_of Tryd.func57 (by decide +kernel) (by kernel_rfl)) ?_ ?_ ?_ (fun w h => need_any h)
  · rintro wA a v w1 rfl
    exact ⟨_, _, _, rfl⟩
  · rintro wA a v w1 w2 hs rfl ho
    rfl
  · rintro wA wB a v w1 hs rfl
    rfl
theorem saidUse1 {w : World} {R : Nat} {E : Int} {B N : Nat} {t : Tk} {r : List Tk} (h : Rdr w R E 0 B N (t :: r)) :
    Calls Tryd.prog 56 #[.pointer (some ⟨R, 0, none⟩), .func (.func 58) #[.pointer (some ⟨R, 0, none⟩)] #[]] w (PE R E 0 B N (thenP E ⟨#[59]⟩ (twoP (nameP E) (choiceP E modeL) r)) VUse w) := by
  refine saidNeed h 58 #[.pointer (some ⟨R, 0, none⟩)] #[] (twoP (nameP E) (choiceP E modeL)) VUse (cf_of Tryd.func58 (by decide +kernel) (by kernel_rfl)) ?_ ?_ ?_ (fun w h => use_any h)
  · rintro wA a v w1 rfl
    exact ⟨_, _, _, rfl⟩
  · rintro wA a v w1 w2 hs rfl ho
    rfl
  · rintro wA wB a v w1 hs rfl
    rfl
end Go.Proofs.YtkpgfhapffijkaaDoor

