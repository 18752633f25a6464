/- Some parts of the proof, one behind the other. -/
import Derived.Test.YtkpgfhapffijkaaDoorJ13
import Derived.Test.YtkpgfhapffijkaaDoorJ14
/- Package jdl: days that are written out. -/
namespace Go.DsJd
open Go.DsLx Go.DsMk
def dateP (E : Int) (ws : List Tk) : Except Fl (Int × List Tk) :=
  match wordP E 2 ws with
  | .error f => .error f
  | .ok (t, r) => if (DsCal.rdres t.text).2 = 0 then .ok ((DsCal.rdres t.text).1, r) else .error (atF E ws, 20)
end Go.DsJd
namespace Go.Proofs.YtkpgfhapffijkaaDoor
open Go.ChangeShapes Go.WideShapes Go.ChangeAt Go.RowKit Go.DsMem Go.DsLx Go.DsJd Go.DsMk
set_option linter.unusedVariables false
theorem Rdr.tab {w : World} {R : Nat} {E d : Int} {B N : Nat} {ws : List Tk} (h : Rdr w R E d B N ws) : TB w R N := by obtain ⟨_, _, _, _, _, _, _, _, _, h7⟩ := h; exact h7
set_option maxHeartbeats 4000000 in
set_option maxRecDepth 20000 in
/-- (*jdl.reader).date -/
theorem date_any {w : World} {R : Nat} {E d : Int} {B N : Nat} {ws : List Tk} (h : Rdr w R E d B N ws) : Calls Tryd.prog 88 #[.pointer (some ⟨R, 0, none⟩)] w (PE R E d B N (dateP E ws) VI w) := by
  obtain ⟨hN1, hN2⟩ := h.n
  have HF := hide (fault_any h 20)
  have HR0 := hide h
  have HW := hide (fun (w : World) (h : Rdr w R E d B N ws) => word_any h 2)
  have hfl := fld1
  clear h
  unfold dateP
  generalize hat : atF E ws = at0 at *
  generalize wordP E 2 ws = q at *
  cases q with
  | error f =>
    unfold Ends at HW
    unfold PE Ends
    simp only at HW ⊢
    go_enter Tryd.func88, Tryd.ntmps88
    go_wp2_with fail
    refine HF.out.mono ?_
    rintro e w1 ⟨rfl, hb⟩
    have HR1 := hide (HR0.out.below hb)
    have HO1 : Hid (Only (· = R) w w1) := Only.below hb
    clear hb
    go_wp2_with fail
    refine (HW.out _ (HR1.out.below (below_new4 _))).mono ?_
    rintro e w2 ⟨rfl, ho2⟩
    have HO2 := hide ((HO1.out.trans (Only.alloc _ _ _) (fun _ _ h => h)).trans ho2 (fun _ _ h => h))
    clear ho2
    go_wp2
    exact ⟨rfl, rfl, HO2.out⟩
  | ok p =>
    obtain ⟨t, r⟩ := p
    unfold Ends tkV at HW
    simp only at HW ⊢
    have HRD := hide (fun (w : World) (h : Dt.Tab w) => Dt.read_any t.text w h)
    generalize DsCal.rdres t.text = rr at *
    obtain ⟨day, er⟩ := rr
    simp only at HRD ⊢
    by_cases he : er = 0
    · subst he
      rw [if_pos rfl]
      unfold PE Ends VI
      simp only
      go_enter Tryd.func88, Tryd.ntmps88
      go_wp2_with fail
      refine HF.out.mono ?_
      rintro e w1 ⟨rfl, hb⟩
      have HR1 := hide (HR0.out.below hb)
      have HO1 : Hid (Only (· = R) w w1) := Only.below hb
      clear hb
      go_wp2_with fail
      refine (HW.out _ (HR1.out.below (below_new4 _))).mono ?_
      rintro e w2 ⟨rfl, hr2, ho2⟩
      have HO2 := hide ((HO1.out.trans (Only.alloc _ _ _) (fun _ _ h => h)).trans ho2 (fun _ _ h => h))
      have HR2 := hide hr2
      clear ho2 hr2
      go_wp2_with fail
      refine (HRD.out _ HR2.out.tab.1).mono ?_
      rintro e w3 ⟨rfl, rfl⟩
      go_wp2
      go_ret
      exact ⟨_, rfl, rfl, HR2.out, HO2.out⟩
    · rw [if_neg he]
      have he' : (er != 0) = true := by simpa using he
      unfold PE Ends
      simp only
      go_enter Tryd.func88, Tryd.ntmps88
      go_wp2_with fail
      refine HF.out.mono ?_
      rintro e w1 ⟨rfl, hb⟩
      have HR1 := hide (HR0.out.below hb)
      have HO1 : Hid (Only (· = R) w w1) := Only.below hb
      have hs1 := hb.size
      clear hb
      go_wp2_with fail
      refine (HW.out _ (HR1.out.below (below_new4 _))).mono ?_
      rintro e w2 ⟨rfl, hr2, ho2⟩
      have hbox : w2.heap[w1.heap.size]? = some (.cells #[.int .i64 at0, .int .i64 20] 65 (0, 0)) := heap_only (heap_alloc_new w1 _) ho2 (by omega)
      have z0 : w2.cell? ⟨w1.heap.size, 0, none⟩ = some (.int .i64 at0) := by rw [cell_of hbox]; rfl
      have z1 : w2.cell? ⟨w1.heap.size, 1, none⟩ = some (.int .i64 20) := by rw [cell_of hbox]; rfl
      have HO2 := hide ((HO1.out.trans (Only.alloc _ _ _) (fun _ _ h => h)).trans ho2 (fun _ _ h => h))
      have HR2 := hide hr2
      clear ho2 hr2 hbox
      go_wp2_with fail
      refine (HRD.out _ HR2.out.tab.1).mono ?_
      rintro e w3 ⟨rfl, rfl⟩
      go_wp2
      exact ⟨rfl, rfl, HO2.out⟩
end Go.Proofs.YtkpgfhapffijkaaDoor

/- Package jdl: lists of days; what parts leave behind, plain. -/
namespace Go.DsJd
open Go.DsLx Go.DsMk
def datesP (E : Int) (ws : List Tk) : Except Fl (List Int × List Tk) := if textF ws = ⟨#[41]⟩ then .ok ([], ws) else listP E ⟨#[44]⟩ (dateP E) 64 ws
theorem wordP_suf {E k : Int} {ws : List Tk} {t : Tk} {r : List Tk} (h : wordP E k ws = .ok (t, r)) : r <:+ ws ∧ t ∈ ws := by
  cases ws with
  | nil => simp [wordP] at h
  | cons u r' =>
    unfold wordP at h
    by_cases hk : u.kind = k
    · simp [hk] at h
      obtain ⟨rfl, rfl⟩ := h
      exact ⟨List.suffix_cons _ _, by simp⟩
    · simp [hk] at h
theorem nameP_suf {E : Int} {ws : List Tk} {a : ByteArray} {r : List Tk} (h : nameP E ws = .ok (a, r)) : r <:+ ws := by
  unfold nameP at h
  split at h
  · cases h
  · rename_i t r' h2; cases h; exact (wordP_suf h2).1
theorem numP_suf {E : Int} {ws : List Tk} {a : Int} {r : List Tk} (h : numP E ws = .ok (a, r)) : r <:+ ws := by
  unfold numP at h
  split at h
  · cases h
  · rename_i t r' h2; cases h; exact (wordP_suf h2).1
theorem timeP_suf {E : Int} {ws : List Tk} {a : Int} {r : List Tk} (h : timeP E ws = .ok (a, r)) : r <:+ ws := by
  unfold timeP at h
  split at h
  · cases h
  · rename_i t r' h2; cases h; exact (wordP_suf h2).1
theorem intP_suf {E : Int} {ws : List Tk} {a : Int} {r : List Tk} (h : intP E ws = .ok (a, r)) : r <:+ ws := by
  unfold intP at h
  split at h
  · split at h
    · cases h
    · rename_i n r' h2; cases h; exact (numP_suf h2).trans (List.tail_suffix _)
  · exact numP_suf h
theorem choiceP_suf {E : Int} {lits : List ByteArray} {ws : List Tk} {a : Int} {r : List Tk} (h : choiceP E lits ws = .ok (a, r)) : r <:+ ws ∧ 0 ≤ a ∧ a < lits.length := by
  unfold choiceP at h
  split at h
  · rename_i i h2
    cases h
    obtain ⟨hi, _⟩ := List.findIdx?_eq_some_iff_getElem.1 h2
    exact ⟨List.tail_suffix _, by omega, by omega⟩
  · cases h
theorem dateP_suf {E : Int} {ws : List Tk} {a : Int} {r : List Tk} (h : dateP E ws = .ok (a, r)) : r <:+ ws := by
  unfold dateP at h
  split at h
  · cases h
  · rename_i t r' h2
    split at h
    · cases h; exact (wordP_suf h2).1
    · cases h
theorem mustP_suf {E : Int} {x : ByteArray} {ws r : List Tk} (h : mustP E x ws = .ok r) : r <:+ ws := by
  unfold mustP at h
  split at h
  · cases h; exact List.tail_suffix _
  · cases h
theorem thenP_suf {α : Type} {E : Int} {x : ByteArray} {p : Except Fl (α × List Tk)} {ws : List Tk} {a : α} {r : List Tk} (hp : ∀ a r, p = .ok (a, r) → r <:+ ws) (h : thenP E x p = .ok (a, r)) : r <:+ ws := by
  unfold thenP at h
  split at h
  · cases h
  · rename_i b r'
    split at h
    · cases h
    · rename_i r2 h2
      cases h
      exact (mustP_suf h2).trans (hp _ _ rfl)
theorem workP_suf {E : Int} {ws : List Tk} {a : Nd} {r : List Tk} (h : workP E ws = .ok (a, r)) : r <:+ ws := by
  unfold workP at h
  split at h
  · cases h
  · rename_i k r1 h1
    split at h
    · cases h
    · rename_i n r2 h2
      cases h
      exact (nameP_suf h2).trans (thenP_suf (fun a r h => intP_suf h) h1)
theorem listP_all {α : Type} {E : Int} {sep : ByteArray} {part : List Tk → Except Fl (α × List Tk)} {Q : α → Prop} (hp : ∀ ws a r, part ws = .ok (a, r) → Q a) : ∀ (n : Nat) (ws : List Tk) (l : List α) (r : List Tk), listP E sep part n ws = .ok (l, r) → ∀ a ∈ l, Q a
  | 0, ws, l, r, h => by simp [listP] at h
  | n + 1, ws, l, r, h => by
    unfold listP at h
    split at h
    · cases h
    · rename_i a r1 h1
      have s1 := hp _ _ _ h1
      split at h
      · split at h
        · cases h
        · rename_i l2 r2 h2
          cases h
          intro b hb
          rcases List.mem_cons.1 hb with rfl | hb
          · exact s1
          · exact listP_all hp n _ _ _ h2 b hb
      · cases h
        intro b hb
        simp only [List.mem_cons, List.not_mem_nil, or_false] at hb
        subst hb; exact s1
end Go.DsJd
namespace Go.Proofs.YtkpgfhapffijkaaDoor
open Go.ChangeShapes Go.WideShapes Go.ChangeAt Go.RowKit Go.DsMem Go.DsLx Go.DsJd Go.DsMk
set_option linter.unusedVariables false
set_option maxHeartbeats 4000000 in
set_option maxRecDepth 20000 in
/-- (*jdl.reader).dates -/
theorem dates_any {w : World} {R : Nat} {E d : Int} {B N : Nat} {ws : List Tk} (h : Rdr w R E d B N ws) : Calls Tryd.prog 82 #[.pointer (some ⟨R, 0, none⟩)] w (PE R E d B N (datesP E ws) VL w) := by
  have hmf : ∀ (fn : Fn) (first cap : Array Value) (w : World), (Instr.makeFunc fn first cap).run Tryd.prog w = .ok (.func fn first cap) w := fun _ _ _ _ => rfl
  have HR := hide h
  have HT := hide (text_any h)
  have HL : Hid (Calls Tryd.prog 80 #[.pointer (some ⟨R, 0, none⟩), .string ⟨#[44]⟩, .int .i64 64, .func (.func 88) #[.pointer (some ⟨R, 0, none⟩)] #[]] w (PE R E d B N (listP E ⟨#[44]⟩ (dateP E) 64 ws) VL w)) :=
    listI h 88 #[.pointer (some ⟨R, 0, none⟩)] #[] (dateP E) ⟨#[44]⟩ (by decide) 64 (by decide) (fun _ => True) trivial (fun _ _ _ _ _ => ⟨trivial, trivial⟩) (cf_of Tryd.func88 (by decide +kernel) (by kernel_rfl)) (fun w ws _ h => date_any h)
  clear h
  unfold datesP
  by_cases hc : textF ws = ⟨#[41]⟩
  · rw [if_pos hc]
    rw [hc] at HT
    clear HL
    unfold PE Ends
    simp only
    go_enter Tryd.func82, Tryd.ntmps82
    go_wp2_with fail
    refine HT.out.mono ?_
    rintro e w1 ⟨rfl, rfl⟩
    go_wp2
    go_ret
    exact ⟨_, rfl, ⟨none, 0, rfl, World.ownsRow_nil _ _ _ _⟩, HR.out, Only.refl _ _⟩
  · rw [if_neg hc]
    have n1 := str_ne2 [41] hc
    generalize textF ws = y at *
    generalize listP E ⟨#[44]⟩ (dateP E) 64 ws = q at *
    go_enter Tryd.func82, Tryd.ntmps82
    go_wp2_with fail
    refine HT.out.mono ?_
    rintro e w1 ⟨rfl, rfl⟩
    go_wp2_with fail
    refine HL.out.mono ?_
    intro e w2 hz
    cases q with
    | error f =>
      obtain ⟨rfl, ho⟩ := hz
      have HO := hide ho
      clear ho
      go_wp2
      exact ⟨rfl, rfl, HO.out⟩
    | ok p =>
      obtain ⟨l, r⟩ := p
      obtain ⟨v, rfl, hv, hr, ho⟩ := hz
      have HO := hide ho
      have HR2 := hide hr
      have HV := hide hv
      clear ho hr hv
      go_wp2
      go_ret
      exact ⟨_, rfl, HV.out, HR2.out, HO.out⟩
end Go.Proofs.YtkpgfhapffijkaaDoor

