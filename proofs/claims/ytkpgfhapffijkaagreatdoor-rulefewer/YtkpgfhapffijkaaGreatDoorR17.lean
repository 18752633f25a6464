/- Package jdl: days that are written out. -/
import Derived.Test.YtkpgfhapffijkaaGreatDoorR14
import Derived.Test.YtkpgfhapffijkaaGreatDoorR16
import Derived.Test.YtkpgfhapffijkaaGreatDoorR13
namespace Go.DsJd
open Go.DsLx Go.DsMk
def dateP (E : Int) (ws : List Tk) : Except Fl (Int × List Tk) :=
  match wordP E 2 ws with
  | .error f => .error f
  | .ok (t, r) => if (DsCal.rdres t.text).2 = 0 then .ok ((DsCal.rdres t.text).1, r) else .error (atF E ws, 20)
end Go.DsJd
namespace Go.Proofs.YtkpgfhapffijkaaGreatDoor
open Go.ChangeShapes Go.WideShapes Go.ChangeAt Go.RowKit Go.DsMem Go.DsLx Go.DsJd Go.DsMk
set_option linter.unusedVariables false
theorem Rdr.tab {w : World} {R : Nat} {E d : Int} {B N : Nat} {ws : List Tk} (h : Rdr w R E d B N ws) : TB w R N := by obtain ⟨_, _, _, _, _, _, _, _, _, h7⟩ := h; exact h7
set_option maxHeartbeats 4000000 in
set_option maxRecDepth 20000 in
/-- (*jdl.reader).date -/
theorem date_any {w : World} {R : Nat} {E d : Int} {B N : Nat} {ws : List Tk} (h : Rdr w R E d B N ws) : Calls Tryz.prog 236 #[.pointer (some ⟨R, 0, none⟩)] w (PE R E d B N (dateP E ws) VI w) := by
  obtain ⟨hN1, hN2⟩ := h.n
  have HF := hide (fault_any h 20)
  have HR0 := hide h
  have HW := hide (fun (w : World) (h : Rdr w R E d B N ws) => word_any h 2)
  have hfl := fld1
  clear h
  unfold dateP
  generalize hat : atF E ws = at0 at *
  generalize wordP E 2 ws = q at *
  cases q with
  | error f =>
    unfold Ends at HW
    unfold PE Ends
    simp only at HW ⊢
    go_enter Tryz.func236, Tryz.ntmps236
    go_wp2_with fail
    refine HF.out.mono ?_
    rintro e w1 ⟨rfl, hb⟩
    have HR1 := hide (HR0.out.below hb)
    have HO1 : Hid (Only (· = R) w w1) := Only.below hb
    clear hb
    go_wp2_with fail
    refine (HW.out _ (HR1.out.below (below_new4 _))).mono ?_
    rintro e w2 ⟨rfl, ho2⟩
    have HO2 := hide ((HO1.out.trans (Only.alloc _ _ _) (fun _ _ h => h)).trans ho2 (fun _ _ h => h))
    clear ho2
    go_wp2
    exact ⟨rfl, rfl, HO2.out⟩
  | ok p =>
    obtain ⟨t, r⟩ := p
    unfold Ends tkV at HW
    simp only at HW ⊢
    have HRD := hide (fun (w : World) (h : Dt.Tab w) => Dt.read_any t.text w h)
    generalize DsCal.rdres t.text = rr at *
    obtain ⟨day, er⟩ := rr
    simp only at HRD ⊢
    by_cases he : er = 0
    · subst he
      rw [if_pos rfl]
      unfold PE Ends VI
      simp only
      go_enter Tryz.func236, Tryz.ntmps236
      go_wp2_with fail
      refine HF.out.mono ?_
      rintro e w1 ⟨rfl, hb⟩
      have HR1 := hide (HR0.out.below hb)
      have HO1 : Hid (Only (· = R) w w1) := Only.below hb
      clear hb
      go_wp2_with fail
      refine (HW.out _ (HR1.out.below (below_new4 _))).mono ?_
      rintro e w2 ⟨rfl, hr2, ho2⟩
      have HO2 := hide ((HO1.out.trans (Only.alloc _ _ _) (fun _ _ h => h)).trans ho2 (fun _ _ h => h))
      have HR2 := hide hr2
      clear ho2 hr2
      go_wp2_with fail
      refine (HRD.out _ HR2.out.tab.1).mono ?_
      rintro e w3 ⟨rfl, rfl⟩
      go_wp2
      go_ret
      exact ⟨_, rfl, rfl, HR2.out, HO2.out⟩
    · rw [if_neg he]
      have he' : (er != 0) = true := by simpa using he
      unfold PE Ends
      simp only
      go_enter Tryz.func236, Tryz.ntmps236
      go_wp2_with fail
      refine HF.out.mono ?_
      rintro e w1 ⟨rfl, hb⟩
      have HR1 := hide (HR0.out.below hb)
      have HO1 : Hid (Only (· = R) w w1) := Only.below hb
      have hs1 := hb.size
      clear hb
      go_wp2_with fail
      refine (HW.out _ (HR1.out.below (below_new4 _))).mono ?_
      rintro e w2 ⟨rfl, hr2, ho2⟩
      have hbox : w2.heap[w1.heap.size]? = some (.cells #[.int .i64 at0, .int .i64 20] 137 (0, 0)) := heap_only (heap_alloc_new w1 _) ho2 (by omega)
      have z0 : w2.cell? ⟨w1.heap.size, 0, none⟩ = some (.int .i64 at0) := by rw [cell_of hbox]; rfl
      have z1 : w2.cell? ⟨w1.heap.size, 1, none⟩ = some (.int .i64 20) := by rw [cell_of hbox]; rfl
      have HO2 := hide ((HO1.out.trans (Only.alloc _ _ _) (fun _ _ h => h)).trans ho2 (fun _ _ h => h))
      have HR2 := hide hr2
      clear ho2 hr2 hbox
      go_wp2_with fail
      refine (HRD.out _ HR2.out.tab.1).mono ?_
      rintro e w3 ⟨rfl, rfl⟩
      go_wp2
      exact ⟨rfl, rfl, HO2.out⟩
end Go.Proofs.YtkpgfhapffijkaaGreatDoor

/- Package jdl: lists of days; what parts leave behind, plain. -/
namespace Go.DsJd
open Go.DsLx Go.DsMk
def datesP (E : Int) (ws : List Tk) : Except Fl (List Int × List Tk) := if textF ws = ⟨#[41]⟩ then .ok ([], ws) else listP E ⟨#[44]⟩ (dateP E) 64 ws
theorem wordP_suf {E k : Int} {ws : List Tk} {t : Tk} {r : List Tk} (h : wordP E k ws = .ok (t, r)) : r <:+ ws ∧ t ∈ ws := by
  cases ws with
  | nil => simp [wordP] at h
  | cons u r' =>
    unfold wordP at h
    by_cases hk : u.kind = k
    · simp [hk] at h
      obtain ⟨rfl, rfl⟩ := h
      exact ⟨List.suffix_cons _ _, by simp⟩
    · simp [hk] at h
theorem nameP_suf {E : Int} {ws : List Tk} {a : ByteArray} {r : List Tk} (h : nameP E ws = .ok (a, r)) : r <:+ ws := by
  unfold nameP at h
  split at h
  · cases h
  · rename_i t r' h2; cases h; exact (wordP_suf h2).1
theorem numP_suf {E : Int} {ws : List Tk} {a : Int} {r : List Tk} (h : numP E ws = .ok (a, r)) : r <:+ ws := by
  unfold numP at h
  split at h
  · cases h
  · rename_i t r' h2; cases h; exact (wordP_suf h2).1
theorem timeP_suf {E : Int} {ws : List Tk} {a : Int} {r : List Tk} (h : timeP E ws = .ok (a, r)) : r <:+ ws := by
  unfold timeP at h
  split at h
  · cases h
  · rename_i t r' h2; cases h; exact (wordP_suf h2).1
theorem intP_suf {E : Int} {ws : List Tk} {a : Int} {r : List Tk} (h : intP E ws = .ok (a, r)) : r <:+ ws := by
  unfold intP at h
  split at h
  · split at h
    · cases h
    · rename_i n r' h2; cases h; exact (numP_suf h2).trans (List.tail_suffix _)
  · exact numP_suf h
theorem choiceP_suf {E : Int} {lits : List ByteArray} {ws : List Tk} {a : Int} {r : List Tk} (h : choiceP E lits ws = .ok (a, r)) : r <:+ ws ∧ 0 ≤ a ∧ a < lits.length := by
  unfold choiceP at h
  split at h
  · rename_i i h2
    cases h
    obtain ⟨hi, _⟩ := List.findIdx?_eq_some_iff_getElem.1 h2
    exact ⟨List.tail_suffix _, by omega, by omega⟩
  · cases h
theorem dateP_suf {E : Int} {ws : List Tk} {a : Int} {r : List Tk} (h : dateP E ws = .ok (a, r)) : r <:+ ws := by
  unfold dateP at h
  split at h
  · cases h
  · rename_i t r' h2
    split at h
    · cases h; exact (wordP_suf h2).1
    · cases h
theorem mustP_suf {E : Int} {x : ByteArray} {ws r : List Tk} (h : mustP E x ws = .ok r) : r <:+ ws := by
  unfold mustP at h
  split at h
  · cases h; exact List.tail_suffix _
  · cases h
theorem thenP_suf {α : Type} {E : Int} {x : ByteArray} {p : Except Fl (α × List Tk)} {ws : List Tk} {a : α} {r : List Tk} (hp : ∀ a r, p = .ok (a, r) → r <:+ ws) (h : thenP E x p = .ok (a, r)) : r <:+ ws := by
  unfold thenP at h
  split at h
  · cases h
  · rename_i b r'
    split at h
    · cases h
    · rename_i r2 h2
      cases h
      exact (mustP_suf h2).trans (hp _ _ rfl)
theorem workP_suf {E : Int} {ws : List Tk} {a : Nd} {r : List Tk} (h : workP E ws = .ok (a, r)) : r <:+ ws := by
  unfold workP at h
  split at h
  · cases h
  · rename_i k r1 h1
    split at h
    · cases h
    · rename_i n r2 h2
      cases h
      exact (nameP_suf h2).trans (thenP_suf (fun a r h => intP_suf h) h1)
theorem listP_all {α : Type} {E : Int} {sep : ByteArray} {part : List Tk → Except Fl (α × List Tk)} {Q : α → Prop} (hp : ∀ ws a r, part ws = .ok (a, r) → Q a) : ∀ (n : Nat) (ws : List Tk) (l : List α) (r : List Tk), listP E sep part n ws = .ok (l, r) → ∀ a ∈ l, Q a
  | 0, ws, l, r, h => by simp [listP] at h
  | n + 1, ws, l, r, h => by
    unfold listP at h
    split at h
    · cases h
    · rename_i a r1 h1
      have s1 := hp _ _ _ h1
      split at h
      · split at h
        · cases h
        · rename_i l2 r2 h2
          cases h
          intro b hb
          rcases List.mem_cons.1 hb with rfl | hb
          · exact s1
          · exact listP_all hp n _ _ _ h2 b hb
      · cases h
        intro b hb
        simp only [List.mem_cons, List.not_mem_nil, or_false] at hb
        subst hb; exact s1
end Go.DsJd
namespace Go.Proofs.YtkpgfhapffijkaaGreatDoor
open Go.ChangeShapes Go.WideShapes Go.ChangeAt Go.RowKit Go.DsMem Go.DsLx Go.DsJd Go.DsMk
set_option linter.unusedVariables false
set_option maxHeartbeats 4000000 in
set_option maxRecDepth 20000 in
/-- (*jdl.reader).dates -/
theorem dates_any {w : World} {R : Nat} {E d : Int} {B N : Nat} {ws : List Tk} (h : Rdr w R E d B N ws) : Calls Tryz.prog 230 #[.pointer (some ⟨R, 0, none⟩)] w (PE R E d B N (datesP E ws) VL w) := by
  have hmf : ∀ (fn : Fn) (first cap : Array Value) (w : World), (Instr.makeFunc fn first cap).run Tryz.prog w = .ok (.func fn first cap) w := fun _ _ _ _ => rfl
  have HR := hide h
  have HT := hide (text_any h)
  have HL : Hid (Calls Tryz.prog 228 #[.pointer (some ⟨R, 0, none⟩), .string ⟨#[44]⟩, .int .i64 64, .func (.func 236) #[.pointer (some ⟨R, 0, none⟩)] #[]] w (PE R E d B N (listP E ⟨#[44]⟩ (dateP E) 64 ws) VL w)) :=
    listI h 236 #[.pointer (some ⟨R, 0, none⟩)] #[] (dateP E) ⟨#[44]⟩ (by decide) 64 (by decide) (fun _ => True) trivial (fun _ _ _ _ _ => ⟨trivial, trivial⟩) (cf_of Tryz.func236 (by decide +kernel) (by kernel_rfl)) (fun w ws _ h => date_any h)
  clear h
  unfold datesP
  by_cases hc : textF ws = ⟨#[41]⟩
  · rw [if_pos hc]
    rw [hc] at HT
    clear HL
    unfold PE Ends
    simp only
    go_enter Tryz.func230, Tryz.ntmps230
    go_wp2_with fail
    refine HT.out.mono ?_
    rintro e w1 ⟨rfl, rfl⟩
    go_wp2
    go_ret
    exact ⟨_, rfl, ⟨none, 0, rfl, World.ownsRow_nil _ _ _ _⟩, HR.out, Only.refl _ _⟩
  · rw [if_neg hc]
    have n1 := str_ne2 [41] hc
    generalize textF ws = y at *
    generalize listP E ⟨#[44]⟩ (dateP E) 64 ws = q at *
    go_enter Tryz.func230, Tryz.ntmps230
    go_wp2_with fail
    refine HT.out.mono ?_
    rintro e w1 ⟨rfl, rfl⟩
    go_wp2_with fail
    refine HL.out.mono ?_
    intro e w2 hz
    cases q with
    | error f =>
      obtain ⟨rfl, ho⟩ := hz
      have HO := hide ho
      clear ho
      go_wp2
      exact ⟨rfl, rfl, HO.out⟩
    | ok p =>
      obtain ⟨l, r⟩ := p
      obtain ⟨v, rfl, hv, hr, ho⟩ := hz
      have HO := hide ho
      have HR2 := hide hr
      have HV := hide hv
      clear ho hr hv
      go_wp2
      go_ret
      exact ⟨_, rfl, HV.out, HR2.out, HO.out⟩
end Go.Proofs.YtkpgfhapffijkaaGreatDoor

/- Package jdl: two numbers; weekdays as bits. -/
namespace Go.DsJd
open Go.DsLx Go.DsMk
/-- one part, a word, another part -/
def pairP (E : Int) (p1 p2 : List Tk → Except Fl (Int × List Tk)) (ws : List Tk) : Except Fl (List Int × List Tk) :=
  match thenP E ⟨#[44]⟩ (p1 ws) with
  | .error f => .error f
  | .ok (a, r) => match p2 r with
    | .error f => .error f
    | .ok (b, r2) => .ok ([a, b], r2)
end Go.DsJd
namespace Go.Proofs.YtkpgfhapffijkaaGreatDoor
open Go.ChangeShapes Go.WideShapes Go.ChangeAt Go.RowKit Go.DsMem Go.DsLx Go.DsJd Go.DsMk
set_option linter.unusedVariables false
theorem vl_new {w0 w : World} (l : List Int) (hw : w0.heap.size ≤ w.heap.size) (hl : l.length ≤ 100) : VL w0 l (.slice (some ⟨w.heap.size, 0, none⟩) l.length l.length) (w.alloc (.cells (l.map (Value.int .i64)).toArray 2)) :=
  ⟨_, _, rfl, own_mk (cur := l.map (Value.int .i64)) (heap_alloc_new w _) (by simp) (by rw [List.take_of_length_le]; simp) (Nat.le_refl _) (by unfold maxLen; omega) hw⟩
set_option maxHeartbeats 4000000 in
set_option maxRecDepth 20000 in
/-- jdl.pair[int64] -/
theorem pairI {w : World} {R : Nat} {E d : Int} {B N : Nat} {ws : List Tk} (h : Rdr w R E d B N ws) (K K2 : Nat) (first cap first2 cap2 : Array Value) (p1 p2 : List Tk → Except Fl (Int × List Tk)) (hcf : CF K) (hcf2 : CF K2)
    (hp : ∀ w, Rdr w R E d B N ws → Calls Tryz.prog K (first ++ cap) w (PE R E d B N (p1 ws) VI w))
    (hp2 : ∀ w a r, thenP E ⟨#[44]⟩ (p1 ws) = .ok (a, r) → Rdr w R E d B N r → Calls Tryz.prog K2 (first2 ++ cap2) w (PE R E d B N (p2 r) VI w)) :
    Calls Tryz.prog 232 #[.pointer (some ⟨R, 0, none⟩), .func (.func K) first cap, .func (.func K2) first2 cap2] w (PE R E d B N (pairP E p1 p2 ws) VL w) := by
  obtain ⟨hN1, hN2⟩ := h.n
  have HP := hide (hp w h)
  have HP2 := hide hp2
  have hcf' := hcf (first ++ cap)
  have hcf2' := hcf2 (first2 ++ cap2)
  have HM := hide (fun (w : World) (r : List Tk) (h : Rdr w R E d B N r) => must_any ⟨#[44]⟩ h (by decide))
  clear h hp hp2 hcf hcf2
  unfold pairP
  generalize p1 ws = q at *
  cases q with
  | error f =>
    have e : thenP E ⟨#[44]⟩ (.error f : Except Fl (Int × List Tk)) = .error f := rfl
    rw [e]
    unfold PE Ends at HP
    unfold PE Ends
    simp only at HP ⊢
    clear HP2
    go_enter Tryz.func232, Tryz.ntmps232
    go_wp2_with fail
    refine HP.out.mono ?_
    rintro e w2 ⟨rfl, ho2⟩
    have HO2 := hide ho2
    clear ho2
    go_wp2
    exact ⟨rfl, rfl, HO2.out⟩
  | ok p =>
    obtain ⟨a, r⟩ := p
    have e : thenP E ⟨#[44]⟩ (.ok (a, r)) = (match mustP E ⟨#[44]⟩ r with | .error f => .error f | .ok r2 => .ok (a, r2)) := rfl
    rw [e] at HP2 ⊢
    have HM2 := hide (fun (w : World) h => HM.out w r h)
    clear HM e
    unfold PE Ends VI at HP
    simp only at HP
    generalize mustP E ⟨#[44]⟩ r = q2 at *
    cases q2 with
    | error f =>
      unfold Ends at HM2
      unfold PE Ends
      simp only at HM2 ⊢
      clear HP2
      go_enter Tryz.func232, Tryz.ntmps232
      go_wp2_with fail
      refine HP.out.mono ?_
      rintro e w2 ⟨v, rfl, rfl, hr2, ho2⟩
      have HO2 := hide ho2
      have HR2 := hide hr2
      clear ho2 hr2
      go_wp2_with fail
      refine (HM2.out _ HR2.out).mono ?_
      rintro e w3 ⟨rfl, ho3⟩
      have HO3 := hide (HO2.out.trans ho3 (fun _ _ h => h))
      clear ho3
      go_wp2
      exact ⟨rfl, rfl, HO3.out⟩
    | ok r2 =>
      unfold Ends at HM2
      simp only at HM2 ⊢
      have HP3 := hide (fun w h => HP2.out w a r2 rfl h)
      clear HP2
      generalize p2 r2 = q3 at *
      go_enter Tryz.func232, Tryz.ntmps232
      go_wp2_with fail
      refine HP.out.mono ?_
      rintro e w2 ⟨v, rfl, rfl, hr2, ho2⟩
      have HO2 := hide ho2
      have HR2 := hide hr2
      clear ho2 hr2
      go_wp2_with fail
      refine (HM2.out _ HR2.out).mono ?_
      rintro e w3 ⟨rfl, hr3, ho3⟩
      have HO3 := hide (HO2.out.trans ho3 (fun _ _ h => h))
      have HR3 := hide hr3
      clear ho3 hr3
      go_wp2_with fail
      refine (HP3.out _ HR3.out).mono ?_
      intro e w4 hz
      cases q3 with
      | error f =>
        obtain ⟨rfl, ho4⟩ := hz
        have HO4 := hide (HO3.out.trans ho4 (fun _ _ h => h))
        clear ho4
        go_wp2
        exact ⟨rfl, rfl, HO4.out⟩
      | ok p =>
        obtain ⟨b, r4⟩ := p
        obtain ⟨v, rfl, hv, hr4, ho4⟩ := hz
        unfold VI at hv
        subst hv
        have HO4 := hide (HO3.out.trans ho4 (fun _ _ h => h))
        have HR4 := hide hr4
        clear ho4 hr4
        go_wp2
        go_ret
        exact ⟨_, rfl, vl_new [a, b] HO4.out.size (by simp), HR4.out.below (below_new4 _), HO4.out.trans (Only.alloc _ _ _) (fun _ _ h => h)⟩
end Go.Proofs.YtkpgfhapffijkaaGreatDoor

/- Package jdl: one of the words of days. Written by genv.py. -/
namespace Go.DsJd
open Go.DsLx Go.DsMk
/-- words whose numbers are small -/
def Few9 (ws : List Tk) : Prop := ∀ t ∈ ws, 0 ≤ t.n ∧ t.n ≤ 999999999
theorem Few9.suf {ws r : List Tk} (h : Few9 ws) (hs : r <:+ ws) : Few9 r := fun t ht => h t (hs.subset ht)
def numsP (op : Int) (x : Except Fl (List Int × List Tk)) : Except Fl (Nd × List Tk) := match x with | .error f => .error f | .ok (l, r) => .ok (.mk op l [] ⟨#[]⟩, r)
end Go.DsJd
namespace Go.Proofs.YtkpgfhapffijkaaGreatDoor
open Go.ChangeShapes Go.WideShapes Go.ChangeAt Go.RowKit Go.DsMem Go.DsLx Go.DsJd Go.DsMk
set_option linter.unusedVariables false
theorem pairP_len {E : Int} {p1 p2 : List Tk → Except Fl (Int × List Tk)} {ws : List Tk} {l : List Int} {r : List Tk} (h : pairP E p1 p2 ws = .ok (l, r)) : l.length ≤ 100000 := by
  unfold pairP at h
  split at h
  · cases h
  · split at h
    · cases h
    · cases h; simp
def weekP (E : Int) (ws : List Tk) : Except Fl (Nd × List Tk) := match listP E ⟨#[44]⟩ (choiceP E weekL) 8192 ws with | .error f => .error f | .ok (l, r) => .ok (.mk 1 [(bitN l : Int)] [] ⟨#[]⟩, r)
theorem vn_of_vl {w w' : World} {l : List Int} {uo : Option Addr} {uc : Nat} (op : Int) (h : w'.ownsRow w.heap.size 2 1 (.slice uo l.length uc) l.length (l.map (.int .i64))) (hl : l.length ≤ 100000) : NdOn (fun b => w.heap.size ≤ b ∧ b < w'.heap.size) w' ⟨op, uo, l.length, uc, none, 0, 0, ⟨#[]⟩⟩ (.mk op l [] ⟨#[]⟩) := by
  have hr : RdI w' (.slice uo l.length uc) l := by
    rcases h.2 with ⟨e, h0⟩ | ⟨g, cap, cur, e, _, hg, hc, _⟩
    · have hz : l = [] := List.eq_nil_of_length_eq_zero h0
      subst hz
      simp only [List.length_nil, Value.slice.injEq] at e
      obtain ⟨rfl, -, rfl⟩ := e
      exact RdI.nil _
    · simp only [Value.slice.injEq] at e
      obtain ⟨rfl, -, rfl⟩ := e
      refine ⟨_, _, rfl, hc, (fun h => by cases h), fun a e j u hu => ?_⟩
      simp only [Option.some.injEq] at e
      subst e
      exact h.cells (g := g) rfl j (.int .i64 u) (by rw [List.getElem?_map, hu]; rfl)
  refine .mk op l [] ⟨#[]⟩ uo uc none 0 0 (fun _ => ⟨0, none, 0, 0, none, 0, 0, ⟨#[]⟩⟩) hr (fun a e => ?_) (by omega) (by simp) (by simp) (fun h => by simp at h) (fun h => by simp at h) (fun j hj => by simp at hj) (fun j hj => by simp at hj)
  subst e
  have := h.lt a.block rfl
  exact this
set_option maxHeartbeats 8000000 in
set_option maxRecDepth 20000 in
theorem call_dates {w : World} {R : Nat} {E d : Int} {B N : Nat} {ws r r1 : List Tk} (h : Rdr w R E d B N ws) (hG : Few9 r1) (hx : nameP E ws = .ok (⟨#[100, 97, 116, 101, 115]⟩, r)) (hm : mustP E ⟨#[40]⟩ r = .ok r1) :
    Calls Tryz.prog 216 #[.pointer (some ⟨R, 0, none⟩)] w (PE R E d B N (thenP E ⟨#[41]⟩ (numsP 2 (datesP E r1))) VN w) := by
  obtain ⟨hN1, hN2⟩ := h.n
  have hmf : ∀ (fn : Fn) (first cap : Array Value) (w : World), (Instr.makeFunc fn first cap).run Tryz.prog w = .ok (.func fn first cap) w := fun _ _ _ _ => rfl
  have HN : Hid (∀ o, Calls Tryz.prog 135 #[.pointer (some ⟨R, 0, none⟩)] (w.alloc o) (PE R E d B N (nameP E ws) VS (w.alloc o))) := fun o => name_any (h.below (below_new4 o))
  rw [hx] at HN
  have HM1 : Hid (∀ (w : World), Rdr w R E d B N r → Calls Tryz.prog 133 #[.pointer (some ⟨R, 0, none⟩), .string ⟨#[40]⟩] w (Ends (mustP E ⟨#[40]⟩ r) (fun w' => Only (· = R) w w') fun r e w' => e = .returned (.tuple #[]) ∧ Rdr w' R E d B N r ∧ Only (· = R) w w')) := fun w h => must_any ⟨#[40]⟩ h (by decide)
  rw [hm] at HM1
  have HC : Hid (∀ (w : World), Rdr w R E d B N r1 → Calls Tryz.prog 230 #[.pointer (some ⟨R, 0, none⟩)] w (PE R E d B N (datesP E r1) VL w)) := fun w h => dates_any h
  have HM := hide (fun (w : World) (r : List Tk) (h : Rdr w R E d B N r) => must_any ⟨#[41]⟩ h (by decide))
  have HRES : Hid (ResN (w.alloc (.cells #[.int .i64 0, .slice none 0 0, .slice none 0 0, .string ⟨#[]⟩] 49)) w.heap.size) := heap_alloc_new w _
  have HOA : Hid (Only (· = R) w (w.alloc (.cells #[.int .i64 0, .slice none 0 0, .slice none 0 0, .string ⟨#[]⟩] 49))) := Only.alloc _ _ _
  have hzA : (w.alloc (.cells #[.int .i64 0, .slice none 0 0, .slice none 0 0, .string ⟨#[]⟩] 49)).heap.size = w.heap.size + 1 := by simp
  unfold PE Ends VS at HN
  unfold Ends at HM1
  simp only at HN HM1
  clear h hx hm hG
  have HLEN : Hid (∀ l r, datesP E r1 = .ok (l, r) → l.length ≤ 100000) := fun l r h => by
    unfold datesP at h
    split at h
    · cases h; simp
    · have := listP_len _ _ _ _ _ _ _ h; omega
  generalize datesP E r1 = q at *
  go_enter Tryz.func216, Tryz.ntmps216
  go_wp2_with fail
  refine (HN.out _).mono ?_
  rintro e w1 ⟨v, rfl, rfl, hr, ho⟩
  have HR := hide hr
  have HO := hide (HOA.out.trans ho (fun _ _ h => h))
  have hs1 := ho.size
  have HRES1 := hide (HRES.out.only ho (by omega))
  clear hr ho
  go_wp2_with fail
  refine (HM1.out _ HR.out).mono ?_
  rintro e w2 ⟨rfl, hr2, ho2⟩
  have HR2 := hide hr2
  have HO2 := hide (HO.out.trans ho2 (fun _ _ h => h))
  have hs2 := ho2.size
  have HRES2 := hide (HRES1.out.only ho2 (by omega))
  clear hr2 ho2
  go_wp2_with fail
  refine (HC.out _ (HR2.out.below (below_new4 _))).mono ?_
  intro e w4 hz
  have hzB : (w2.alloc (.cells #[.int .i64 0, .slice none 0 0, .slice none 0 0, .string ⟨#[]⟩] 49)).heap.size = w2.heap.size + 1 := by simp
  cases q with
  | error f =>
    obtain ⟨rfl, ho4⟩ := hz
    have HO4 := hide ((HO2.out.trans (Only.alloc _ _ _) (fun _ _ h => h)).trans ho4 (fun _ _ h => h))
    clear ho4
    go_wp2
    exact ⟨rfl, rfl, HO4.out⟩
  | ok p =>
    obtain ⟨l, r4⟩ := p
    obtain ⟨v, rfl, ⟨uo, uc, rfl, hown⟩, hr4, ho4⟩ := hz
    have hll := HLEN.out l r4 rfl
    have HON := hide (vn_of_vl 2 hown hll)
    have HBOX : Hid (ResN w4 w2.heap.size) := heap_only (heap_alloc_new w2 _) ho4 (by omega)
    have HRES4 : Hid (ResN w4 w.heap.size) := heap_only (heap_keep' HRES2.out) ho4 (by omega)
    have hs4 := ho4.size
    have HR4 := hide hr4
    have HO4 := hide ((HO2.out.trans (Only.alloc _ _ _) (fun _ _ h => h)).trans ho4 (fun _ _ h => h))
    have hq : N ≤ w2.heap.size := by omega
    obtain ⟨⟨b0, b1, b2, b3⟩, g0, g1, g2, g3⟩ := HBOX.out.all
    clear hr4 ho4 hown
    go_wp2_with fail
    have HBX := hide (res4 HBOX.out (.int .i64 2) (.slice uo l.length uc) (.slice none 0 0) (.string ⟨#[]⟩))
    have HW4 := hide (only4 w4 w2.heap.size (.int .i64 2) (.slice uo l.length uc) (.slice none 0 0) (.string ⟨#[]⟩))
    have HRX : Hid (Rdr ((((w4.setCell ⟨w2.heap.size, 0, none⟩ (.int .i64 2)).setCell ⟨w2.heap.size, 1, none⟩ (.slice uo l.length uc)).setCell ⟨w2.heap.size, 2, none⟩ (.slice none 0 0)).setCell ⟨w2.heap.size, 3, none⟩ (.string ⟨#[]⟩)) R E d B N r4) := HR4.out.only (((((Below.refl N _).setCell hq _).setCell hq _).setCell hq _).setCell hq _)
    have HOX : Hid (Only (· = R) w ((((w4.setCell ⟨w2.heap.size, 0, none⟩ (.int .i64 2)).setCell ⟨w2.heap.size, 1, none⟩ (.slice uo l.length uc)).setCell ⟨w2.heap.size, 2, none⟩ (.slice none 0 0)).setCell ⟨w2.heap.size, 3, none⟩ (.string ⟨#[]⟩))) := only_set4 HO4.out (by omega) _ _ _ _
    have HRESX : Hid (ResN ((((w4.setCell ⟨w2.heap.size, 0, none⟩ (.int .i64 2)).setCell ⟨w2.heap.size, 1, none⟩ (.slice uo l.length uc)).setCell ⟨w2.heap.size, 2, none⟩ (.slice none 0 0)).setCell ⟨w2.heap.size, 3, none⟩ (.string ⟨#[]⟩)) w.heap.size) := by unfold ResN; rw [HW4.out.block w.heap.size (by omega) (by omega)]; exact hide HRES4.out
    have HMM := hide (HM.out _ r4 HRX.out)
    have hsX := HW4.out.size
    clear HM HBOX b0 b1 b2 b3 g0 g1 g2 g3
    generalize ((((w4.setCell ⟨w2.heap.size, 0, none⟩ (.int .i64 2)).setCell ⟨w2.heap.size, 1, none⟩ (.slice uo l.length uc)).setCell ⟨w2.heap.size, 2, none⟩ (.slice none 0 0)).setCell ⟨w2.heap.size, 3, none⟩ (.string ⟨#[]⟩)) = wX at *
    refine HMM.out.mono ?_
    intro e w7 hz
    obtain ⟨qm, hqm⟩ : ∃ q, mustP E ⟨#[41]⟩ r4 = q := ⟨_, rfl⟩
    rw [hqm] at hz
    cases qm with
    | error f =>
      obtain ⟨rfl, ho7⟩ := hz
      have HQ : Hid (thenP E ⟨#[41]⟩ (numsP 2 (.ok (l, r4))) = .error f) := by refine hide ?_; show (match mustP E ⟨#[41]⟩ r4 with | .error f => _ | .ok r' => _) = _; rw [hqm]
      have HO7 := hide (HOX.out.trans ho7 (fun _ _ h => h))
      clear ho7 hqm
      go_wp2
      refine ⟨rfl, ?_⟩
      rw [HQ.out]
      exact ⟨rfl, HO7.out⟩
    | ok r5 =>
      obtain ⟨rfl, hr7, ho7⟩ := hz
      have HQ : Hid (thenP E ⟨#[41]⟩ (numsP 2 (.ok (l, r4))) = .ok (.mk 2 l [] ⟨#[]⟩, r5)) := by refine hide ?_; show (match mustP E ⟨#[41]⟩ r4 with | .error f => _ | .ok r' => _) = _; rw [hqm]
      have hbox := heap_only HBX.out ho7 (by omega)
      have z0 : w7.cell? ⟨w2.heap.size, 0, none⟩ = some (.int .i64 2) := by rw [cell_of hbox]; rfl
      have z1 : w7.cell? ⟨w2.heap.size, 1, none⟩ = some (.slice uo l.length uc) := by rw [cell_of hbox]; rfl
      have z2 : w7.cell? ⟨w2.heap.size, 2, none⟩ = some (.slice none 0 0) := by rw [cell_of hbox]; rfl
      have z3 : w7.cell? ⟨w2.heap.size, 3, none⟩ = some (.string ⟨#[]⟩) := by rw [cell_of hbox]; rfl
      obtain ⟨⟨q0, q1, q2, q3⟩, f0, f1, f2, f3⟩ := (HRESX.out.only ho7 (by omega)).all
      have hs7 := ho7.size
      have HR7 := hide hr7
      have HO7 := hide (HOX.out.trans ho7 (fun _ _ h => h))
      have HW7 : Hid (Only (fun k => k = R ∨ k = w2.heap.size) w4 w7) := (HW4.out.mono (fun _ _ e => .inr e)).trans ho7 (fun _ _ e => .inl e)
      clear ho7 hr7 hbox hqm
      go_wp2
      refine bodyPost_ret (v := NVal.val ⟨2, uo, l.length, uc, none, 0, 0, ⟨#[]⟩⟩) (by simp [results, Tryz.results216, go_sem, q0, q1, q2, q3, NVal.val, ndV]) rfl ?_
      rw [HQ.out]
      have hW : Only (fun k => k = R ∨ k = w2.heap.size ∨ k = w.heap.size) w4 _ := (HW7.out.mono (fun _ _ e => e.elim .inl (fun e => .inr (.inl e)))).trans (only4 w7 w.heap.size (.int .i64 2) (.slice uo l.length uc) (.slice none 0 0) (.string ⟨#[]⟩)) (fun _ _ e => .inr (.inr e))
      refine ⟨_, rfl, ⟨_, rfl, HON.out.mono (fun b hb => ⟨by omega, Nat.lt_of_lt_of_le hb.2 hW.size⟩) (fun ad u hB hc => hW.cell hc (by omega))⟩, ?_, ?_⟩
      · exact HR7.out.only (((((Below.refl N _).setCell hN1 _).setCell hN1 _).setCell hN1 _).setCell hN1 _)
      · exact only_set4 HO7.out (Nat.le_refl _) _ _ _ _
set_option maxHeartbeats 8000000 in
set_option maxRecDepth 20000 in
theorem call_month {w : World} {R : Nat} {E d : Int} {B N : Nat} {ws r r1 : List Tk} (h : Rdr w R E d B N ws) (hG : Few9 r1) (hx : nameP E ws = .ok (⟨#[109, 111, 110, 116, 104]⟩, r)) (hm : mustP E ⟨#[40]⟩ r = .ok r1) :
    Calls Tryz.prog 216 #[.pointer (some ⟨R, 0, none⟩)] w (PE R E d B N (thenP E ⟨#[41]⟩ (numsP 3 (listP E ⟨#[44]⟩ (intP E) 64 r1))) VN w) := by
  obtain ⟨hN1, hN2⟩ := h.n
  have hmf : ∀ (fn : Fn) (first cap : Array Value) (w : World), (Instr.makeFunc fn first cap).run Tryz.prog w = .ok (.func fn first cap) w := fun _ _ _ _ => rfl
  have HN : Hid (∀ o, Calls Tryz.prog 135 #[.pointer (some ⟨R, 0, none⟩)] (w.alloc o) (PE R E d B N (nameP E ws) VS (w.alloc o))) := fun o => name_any (h.below (below_new4 o))
  rw [hx] at HN
  have HM1 : Hid (∀ (w : World), Rdr w R E d B N r → Calls Tryz.prog 133 #[.pointer (some ⟨R, 0, none⟩), .string ⟨#[40]⟩] w (Ends (mustP E ⟨#[40]⟩ r) (fun w' => Only (· = R) w w') fun r e w' => e = .returned (.tuple #[]) ∧ Rdr w' R E d B N r ∧ Only (· = R) w w')) := fun w h => must_any ⟨#[40]⟩ h (by decide)
  rw [hm] at HM1
  have HC : Hid (∀ (w : World), Rdr w R E d B N r1 → Calls Tryz.prog 228 #[.pointer (some ⟨R, 0, none⟩), .string ⟨#[44]⟩, .int .i64 64, .func (.func 231) #[.pointer (some ⟨R, 0, none⟩)] #[]] w (PE R E d B N (listP E ⟨#[44]⟩ (intP E) 64 r1) VL w)) := fun w h => listI h 231 #[.pointer (some ⟨R, 0, none⟩)] #[] (intP E) ⟨#[44]⟩ (by decide) 64 (by decide) Few9 hG (fun ws a r hg e => ⟨hg.suf (intP_suf e), hg.suf ((List.tail_suffix _).trans (intP_suf e))⟩) (cf_of Tryz.func231 (by decide +kernel) (by kernel_rfl)) (fun w ws hg h => integer_any h hg)
  have HM := hide (fun (w : World) (r : List Tk) (h : Rdr w R E d B N r) => must_any ⟨#[41]⟩ h (by decide))
  have HRES : Hid (ResN (w.alloc (.cells #[.int .i64 0, .slice none 0 0, .slice none 0 0, .string ⟨#[]⟩] 49)) w.heap.size) := heap_alloc_new w _
  have HOA : Hid (Only (· = R) w (w.alloc (.cells #[.int .i64 0, .slice none 0 0, .slice none 0 0, .string ⟨#[]⟩] 49))) := Only.alloc _ _ _
  have hzA : (w.alloc (.cells #[.int .i64 0, .slice none 0 0, .slice none 0 0, .string ⟨#[]⟩] 49)).heap.size = w.heap.size + 1 := by simp
  unfold PE Ends VS at HN
  unfold Ends at HM1
  simp only at HN HM1
  clear h hx hm hG
  have HLEN : Hid (∀ l r, listP E ⟨#[44]⟩ (intP E) 64 r1 = .ok (l, r) → l.length ≤ 100000) := fun l r h => by
    have := listP_len _ _ _ _ _ _ _ h; omega
  generalize listP E ⟨#[44]⟩ (intP E) 64 r1 = q at *
  go_enter Tryz.func216, Tryz.ntmps216
  go_wp2_with fail
  refine (HN.out _).mono ?_
  rintro e w1 ⟨v, rfl, rfl, hr, ho⟩
  have HR := hide hr
  have HO := hide (HOA.out.trans ho (fun _ _ h => h))
  have hs1 := ho.size
  have HRES1 := hide (HRES.out.only ho (by omega))
  clear hr ho
  go_wp2_with fail
  refine (HM1.out _ HR.out).mono ?_
  rintro e w2 ⟨rfl, hr2, ho2⟩
  have HR2 := hide hr2
  have HO2 := hide (HO.out.trans ho2 (fun _ _ h => h))
  have hs2 := ho2.size
  have HRES2 := hide (HRES1.out.only ho2 (by omega))
  clear hr2 ho2
  go_wp2_with fail
  refine (HC.out _ (HR2.out.below (below_new4 _))).mono ?_
  intro e w4 hz
  have hzB : (w2.alloc (.cells #[.int .i64 0, .slice none 0 0, .slice none 0 0, .string ⟨#[]⟩] 49)).heap.size = w2.heap.size + 1 := by simp
  cases q with
  | error f =>
    obtain ⟨rfl, ho4⟩ := hz
    have HO4 := hide ((HO2.out.trans (Only.alloc _ _ _) (fun _ _ h => h)).trans ho4 (fun _ _ h => h))
    clear ho4
    go_wp2
    exact ⟨rfl, rfl, HO4.out⟩
  | ok p =>
    obtain ⟨l, r4⟩ := p
    obtain ⟨v, rfl, ⟨uo, uc, rfl, hown⟩, hr4, ho4⟩ := hz
    have hll := HLEN.out l r4 rfl
    have HON := hide (vn_of_vl 3 hown hll)
    have HBOX : Hid (ResN w4 w2.heap.size) := heap_only (heap_alloc_new w2 _) ho4 (by omega)
    have HRES4 : Hid (ResN w4 w.heap.size) := heap_only (heap_keep' HRES2.out) ho4 (by omega)
    have hs4 := ho4.size
    have HR4 := hide hr4
    have HO4 := hide ((HO2.out.trans (Only.alloc _ _ _) (fun _ _ h => h)).trans ho4 (fun _ _ h => h))
    have hq : N ≤ w2.heap.size := by omega
    obtain ⟨⟨b0, b1, b2, b3⟩, g0, g1, g2, g3⟩ := HBOX.out.all
    clear hr4 ho4 hown
    go_wp2_with fail
    have HBX := hide (res4 HBOX.out (.int .i64 3) (.slice uo l.length uc) (.slice none 0 0) (.string ⟨#[]⟩))
    have HW4 := hide (only4 w4 w2.heap.size (.int .i64 3) (.slice uo l.length uc) (.slice none 0 0) (.string ⟨#[]⟩))
    have HRX : Hid (Rdr ((((w4.setCell ⟨w2.heap.size, 0, none⟩ (.int .i64 3)).setCell ⟨w2.heap.size, 1, none⟩ (.slice uo l.length uc)).setCell ⟨w2.heap.size, 2, none⟩ (.slice none 0 0)).setCell ⟨w2.heap.size, 3, none⟩ (.string ⟨#[]⟩)) R E d B N r4) := HR4.out.only (((((Below.refl N _).setCell hq _).setCell hq _).setCell hq _).setCell hq _)
    have HOX : Hid (Only (· = R) w ((((w4.setCell ⟨w2.heap.size, 0, none⟩ (.int .i64 3)).setCell ⟨w2.heap.size, 1, none⟩ (.slice uo l.length uc)).setCell ⟨w2.heap.size, 2, none⟩ (.slice none 0 0)).setCell ⟨w2.heap.size, 3, none⟩ (.string ⟨#[]⟩))) := only_set4 HO4.out (by omega) _ _ _ _
    have HRESX : Hid (ResN ((((w4.setCell ⟨w2.heap.size, 0, none⟩ (.int .i64 3)).setCell ⟨w2.heap.size, 1, none⟩ (.slice uo l.length uc)).setCell ⟨w2.heap.size, 2, none⟩ (.slice none 0 0)).setCell ⟨w2.heap.size, 3, none⟩ (.string ⟨#[]⟩)) w.heap.size) := by unfold ResN; rw [HW4.out.block w.heap.size (by omega) (by omega)]; exact hide HRES4.out
    have HMM := hide (HM.out _ r4 HRX.out)
    have hsX := HW4.out.size
    clear HM HBOX b0 b1 b2 b3 g0 g1 g2 g3
    generalize ((((w4.setCell ⟨w2.heap.size, 0, none⟩ (.int .i64 3)).setCell ⟨w2.heap.size, 1, none⟩ (.slice uo l.length uc)).setCell ⟨w2.heap.size, 2, none⟩ (.slice none 0 0)).setCell ⟨w2.heap.size, 3, none⟩ (.string ⟨#[]⟩)) = wX at *
    refine HMM.out.mono ?_
    intro e w7 hz
    obtain ⟨qm, hqm⟩ : ∃ q, mustP E ⟨#[41]⟩ r4 = q := ⟨_, rfl⟩
    rw [hqm] at hz
    cases qm with
    | error f =>
      obtain ⟨rfl, ho7⟩ := hz
      have HQ : Hid (thenP E ⟨#[41]⟩ (numsP 3 (.ok (l, r4))) = .error f) := by refine hide ?_; show (match mustP E ⟨#[41]⟩ r4 with | .error f => _ | .ok r' => _) = _; rw [hqm]
      have HO7 := hide (HOX.out.trans ho7 (fun _ _ h => h))
      clear ho7 hqm
      go_wp2
      refine ⟨rfl, ?_⟩
      rw [HQ.out]
      exact ⟨rfl, HO7.out⟩
    | ok r5 =>
      obtain ⟨rfl, hr7, ho7⟩ := hz
      have HQ : Hid (thenP E ⟨#[41]⟩ (numsP 3 (.ok (l, r4))) = .ok (.mk 3 l [] ⟨#[]⟩, r5)) := by refine hide ?_; show (match mustP E ⟨#[41]⟩ r4 with | .error f => _ | .ok r' => _) = _; rw [hqm]
      have hbox := heap_only HBX.out ho7 (by omega)
      have z0 : w7.cell? ⟨w2.heap.size, 0, none⟩ = some (.int .i64 3) := by rw [cell_of hbox]; rfl
      have z1 : w7.cell? ⟨w2.heap.size, 1, none⟩ = some (.slice uo l.length uc) := by rw [cell_of hbox]; rfl
      have z2 : w7.cell? ⟨w2.heap.size, 2, none⟩ = some (.slice none 0 0) := by rw [cell_of hbox]; rfl
      have z3 : w7.cell? ⟨w2.heap.size, 3, none⟩ = some (.string ⟨#[]⟩) := by rw [cell_of hbox]; rfl
      obtain ⟨⟨q0, q1, q2, q3⟩, f0, f1, f2, f3⟩ := (HRESX.out.only ho7 (by omega)).all
      have hs7 := ho7.size
      have HR7 := hide hr7
      have HO7 := hide (HOX.out.trans ho7 (fun _ _ h => h))
      have HW7 : Hid (Only (fun k => k = R ∨ k = w2.heap.size) w4 w7) := (HW4.out.mono (fun _ _ e => .inr e)).trans ho7 (fun _ _ e => .inl e)
      clear ho7 hr7 hbox hqm
      go_wp2
      refine bodyPost_ret (v := NVal.val ⟨3, uo, l.length, uc, none, 0, 0, ⟨#[]⟩⟩) (by simp [results, Tryz.results216, go_sem, q0, q1, q2, q3, NVal.val, ndV]) rfl ?_
      rw [HQ.out]
      have hW : Only (fun k => k = R ∨ k = w2.heap.size ∨ k = w.heap.size) w4 _ := (HW7.out.mono (fun _ _ e => e.elim .inl (fun e => .inr (.inl e)))).trans (only4 w7 w.heap.size (.int .i64 3) (.slice uo l.length uc) (.slice none 0 0) (.string ⟨#[]⟩)) (fun _ _ e => .inr (.inr e))
      refine ⟨_, rfl, ⟨_, rfl, HON.out.mono (fun b hb => ⟨by omega, Nat.lt_of_lt_of_le hb.2 hW.size⟩) (fun ad u hB hc => hW.cell hc (by omega))⟩, ?_, ?_⟩
      · exact HR7.out.only (((((Below.refl N _).setCell hN1 _).setCell hN1 _).setCell hN1 _).setCell hN1 _)
      · exact only_set4 HO7.out (Nat.le_refl _) _ _ _ _
set_option maxHeartbeats 8000000 in
set_option maxRecDepth 20000 in
theorem call_nth {w : World} {R : Nat} {E d : Int} {B N : Nat} {ws r r1 : List Tk} (h : Rdr w R E d B N ws) (hG : Few9 r1) (hx : nameP E ws = .ok (⟨#[110, 116, 104]⟩, r)) (hm : mustP E ⟨#[40]⟩ r = .ok r1) :
    Calls Tryz.prog 216 #[.pointer (some ⟨R, 0, none⟩)] w (PE R E d B N (thenP E ⟨#[41]⟩ (numsP 4 (pairP E (choiceP E weekL) (intP E) r1))) VN w) := by
  obtain ⟨hN1, hN2⟩ := h.n
  have hmf : ∀ (fn : Fn) (first cap : Array Value) (w : World), (Instr.makeFunc fn first cap).run Tryz.prog w = .ok (.func fn first cap) w := fun _ _ _ _ => rfl
  have HN : Hid (∀ o, Calls Tryz.prog 135 #[.pointer (some ⟨R, 0, none⟩)] (w.alloc o) (PE R E d B N (nameP E ws) VS (w.alloc o))) := fun o => name_any (h.below (below_new4 o))
  rw [hx] at HN
  have HM1 : Hid (∀ (w : World), Rdr w R E d B N r → Calls Tryz.prog 133 #[.pointer (some ⟨R, 0, none⟩), .string ⟨#[40]⟩] w (Ends (mustP E ⟨#[40]⟩ r) (fun w' => Only (· = R) w w') fun r e w' => e = .returned (.tuple #[]) ∧ Rdr w' R E d B N r ∧ Only (· = R) w w')) := fun w h => must_any ⟨#[40]⟩ h (by decide)
  rw [hm] at HM1
  have HC : Hid (∀ (w : World), Rdr w R E d B N r1 → Calls Tryz.prog 232 #[.pointer (some ⟨R, 0, none⟩), .func (.func 229) #[.pointer (some ⟨R, 0, none⟩)] #[], .func (.func 231) #[.pointer (some ⟨R, 0, none⟩)] #[]] w (PE R E d B N (pairP E (choiceP E weekL) (intP E) r1) VL w)) := fun w h => pairI h 229 231 #[.pointer (some ⟨R, 0, none⟩)] #[] #[.pointer (some ⟨R, 0, none⟩)] #[] (choiceP E weekL) (intP E) (cf_of Tryz.func229 (by decide +kernel) (by kernel_rfl)) (cf_of Tryz.func231 (by decide +kernel) (by kernel_rfl)) (fun w h => weekday_any h) (fun w a r e h => integer_any h (hG.suf (thenP_suf (fun a r h => (choiceP_suf h).1) e)))
  have HM := hide (fun (w : World) (r : List Tk) (h : Rdr w R E d B N r) => must_any ⟨#[41]⟩ h (by decide))
  have HRES : Hid (ResN (w.alloc (.cells #[.int .i64 0, .slice none 0 0, .slice none 0 0, .string ⟨#[]⟩] 49)) w.heap.size) := heap_alloc_new w _
  have HOA : Hid (Only (· = R) w (w.alloc (.cells #[.int .i64 0, .slice none 0 0, .slice none 0 0, .string ⟨#[]⟩] 49))) := Only.alloc _ _ _
  have hzA : (w.alloc (.cells #[.int .i64 0, .slice none 0 0, .slice none 0 0, .string ⟨#[]⟩] 49)).heap.size = w.heap.size + 1 := by simp
  unfold PE Ends VS at HN
  unfold Ends at HM1
  simp only at HN HM1
  clear h hx hm hG
  have HLEN : Hid (∀ l r, pairP E (choiceP E weekL) (intP E) r1 = .ok (l, r) → l.length ≤ 100000) := fun l r h => by
    exact pairP_len h
  generalize pairP E (choiceP E weekL) (intP E) r1 = q at *
  go_enter Tryz.func216, Tryz.ntmps216
  go_wp2_with fail
  refine (HN.out _).mono ?_
  rintro e w1 ⟨v, rfl, rfl, hr, ho⟩
  have HR := hide hr
  have HO := hide (HOA.out.trans ho (fun _ _ h => h))
  have hs1 := ho.size
  have HRES1 := hide (HRES.out.only ho (by omega))
  clear hr ho
  go_wp2_with fail
  refine (HM1.out _ HR.out).mono ?_
  rintro e w2 ⟨rfl, hr2, ho2⟩
  have HR2 := hide hr2
  have HO2 := hide (HO.out.trans ho2 (fun _ _ h => h))
  have hs2 := ho2.size
  have HRES2 := hide (HRES1.out.only ho2 (by omega))
  clear hr2 ho2
  go_wp2_with fail
  refine (HC.out _ (HR2.out.below (below_new4 _))).mono ?_
  intro e w4 hz
  have hzB : (w2.alloc (.cells #[.int .i64 0, .slice none 0 0, .slice none 0 0, .string ⟨#[]⟩] 49)).heap.size = w2.heap.size + 1 := by simp
  cases q with
  | error f =>
    obtain ⟨rfl, ho4⟩ := hz
    have HO4 := hide ((HO2.out.trans (Only.alloc _ _ _) (fun _ _ h => h)).trans ho4 (fun _ _ h => h))
    clear ho4
    go_wp2
    exact ⟨rfl, rfl, HO4.out⟩
  | ok p =>
    obtain ⟨l, r4⟩ := p
    obtain ⟨v, rfl, ⟨uo, uc, rfl, hown⟩, hr4, ho4⟩ := hz
    have hll := HLEN.out l r4 rfl
    have HON := hide (vn_of_vl 4 hown hll)
    have HBOX : Hid (ResN w4 w2.heap.size) := heap_only (heap_alloc_new w2 _) ho4 (by omega)
    have HRES4 : Hid (ResN w4 w.heap.size) := heap_only (heap_keep' HRES2.out) ho4 (by omega)
    have hs4 := ho4.size
    have HR4 := hide hr4
    have HO4 := hide ((HO2.out.trans (Only.alloc _ _ _) (fun _ _ h => h)).trans ho4 (fun _ _ h => h))
    have hq : N ≤ w2.heap.size := by omega
    obtain ⟨⟨b0, b1, b2, b3⟩, g0, g1, g2, g3⟩ := HBOX.out.all
    clear hr4 ho4 hown
    go_wp2_with fail
    have HBX := hide (res4 HBOX.out (.int .i64 4) (.slice uo l.length uc) (.slice none 0 0) (.string ⟨#[]⟩))
    have HW4 := hide (only4 w4 w2.heap.size (.int .i64 4) (.slice uo l.length uc) (.slice none 0 0) (.string ⟨#[]⟩))
    have HRX : Hid (Rdr ((((w4.setCell ⟨w2.heap.size, 0, none⟩ (.int .i64 4)).setCell ⟨w2.heap.size, 1, none⟩ (.slice uo l.length uc)).setCell ⟨w2.heap.size, 2, none⟩ (.slice none 0 0)).setCell ⟨w2.heap.size, 3, none⟩ (.string ⟨#[]⟩)) R E d B N r4) := HR4.out.only (((((Below.refl N _).setCell hq _).setCell hq _).setCell hq _).setCell hq _)
    have HOX : Hid (Only (· = R) w ((((w4.setCell ⟨w2.heap.size, 0, none⟩ (.int .i64 4)).setCell ⟨w2.heap.size, 1, none⟩ (.slice uo l.length uc)).setCell ⟨w2.heap.size, 2, none⟩ (.slice none 0 0)).setCell ⟨w2.heap.size, 3, none⟩ (.string ⟨#[]⟩))) := only_set4 HO4.out (by omega) _ _ _ _
    have HRESX : Hid (ResN ((((w4.setCell ⟨w2.heap.size, 0, none⟩ (.int .i64 4)).setCell ⟨w2.heap.size, 1, none⟩ (.slice uo l.length uc)).setCell ⟨w2.heap.size, 2, none⟩ (.slice none 0 0)).setCell ⟨w2.heap.size, 3, none⟩ (.string ⟨#[]⟩)) w.heap.size) := by unfold ResN; rw [HW4.out.block w.heap.size (by omega) (by omega)]; exact hide HRES4.out
    have HMM := hide (HM.out _ r4 HRX.out)
    have hsX := HW4.out.size
    clear HM HBOX b0 b1 b2 b3 g0 g1 g2 g3
    generalize ((((w4.setCell ⟨w2.heap.size, 0, none⟩ (.int .i64 4)).setCell ⟨w2.heap.size, 1, none⟩ (.slice uo l.length uc)).setCell ⟨w2.heap.size, 2, none⟩ (.slice none 0 0)).setCell ⟨w2.heap.size, 3, none⟩ (.string ⟨#[]⟩)) = wX at *
    refine HMM.out.mono ?_
    intro e w7 hz
    obtain ⟨qm, hqm⟩ : ∃ q, mustP E ⟨#[41]⟩ r4 = q := ⟨_, rfl⟩
    rw [hqm] at hz
    cases qm with
    | error f =>
      obtain ⟨rfl, ho7⟩ := hz
      have HQ : Hid (thenP E ⟨#[41]⟩ (numsP 4 (.ok (l, r4))) = .error f) := by refine hide ?_; show (match mustP E ⟨#[41]⟩ r4 with | .error f => _ | .ok r' => _) = _; rw [hqm]
      have HO7 := hide (HOX.out.trans ho7 (fun _ _ h => h))
      clear ho7 hqm
      go_wp2
      refine ⟨rfl, ?_⟩
      rw [HQ.out]
      exact ⟨rfl, HO7.out⟩
    | ok r5 =>
      obtain ⟨rfl, hr7, ho7⟩ := hz
      have HQ : Hid (thenP E ⟨#[41]⟩ (numsP 4 (.ok (l, r4))) = .ok (.mk 4 l [] ⟨#[]⟩, r5)) := by refine hide ?_; show (match mustP E ⟨#[41]⟩ r4 with | .error f => _ | .ok r' => _) = _; rw [hqm]
      have hbox := heap_only HBX.out ho7 (by omega)
      have z0 : w7.cell? ⟨w2.heap.size, 0, none⟩ = some (.int .i64 4) := by rw [cell_of hbox]; rfl
      have z1 : w7.cell? ⟨w2.heap.size, 1, none⟩ = some (.slice uo l.length uc) := by rw [cell_of hbox]; rfl
      have z2 : w7.cell? ⟨w2.heap.size, 2, none⟩ = some (.slice none 0 0) := by rw [cell_of hbox]; rfl
      have z3 : w7.cell? ⟨w2.heap.size, 3, none⟩ = some (.string ⟨#[]⟩) := by rw [cell_of hbox]; rfl
      obtain ⟨⟨q0, q1, q2, q3⟩, f0, f1, f2, f3⟩ := (HRESX.out.only ho7 (by omega)).all
      have hs7 := ho7.size
      have HR7 := hide hr7
      have HO7 := hide (HOX.out.trans ho7 (fun _ _ h => h))
      have HW7 : Hid (Only (fun k => k = R ∨ k = w2.heap.size) w4 w7) := (HW4.out.mono (fun _ _ e => .inr e)).trans ho7 (fun _ _ e => .inl e)
      clear ho7 hr7 hbox hqm
      go_wp2
      refine bodyPost_ret (v := NVal.val ⟨4, uo, l.length, uc, none, 0, 0, ⟨#[]⟩⟩) (by simp [results, Tryz.results216, go_sem, q0, q1, q2, q3, NVal.val, ndV]) rfl ?_
      rw [HQ.out]
      have hW : Only (fun k => k = R ∨ k = w2.heap.size ∨ k = w.heap.size) w4 _ := (HW7.out.mono (fun _ _ e => e.elim .inl (fun e => .inr (.inl e)))).trans (only4 w7 w.heap.size (.int .i64 4) (.slice uo l.length uc) (.slice none 0 0) (.string ⟨#[]⟩)) (fun _ _ e => .inr (.inr e))
      refine ⟨_, rfl, ⟨_, rfl, HON.out.mono (fun b hb => ⟨by omega, Nat.lt_of_lt_of_le hb.2 hW.size⟩) (fun ad u hB hc => hW.cell hc (by omega))⟩, ?_, ?_⟩
      · exact HR7.out.only (((((Below.refl N _).setCell hN1 _).setCell hN1 _).setCell hN1 _).setCell hN1 _)
      · exact only_set4 HO7.out (Nat.le_refl _) _ _ _ _
set_option maxHeartbeats 8000000 in
set_option maxRecDepth 20000 in
theorem call_fiscal {w : World} {R : Nat} {E d : Int} {B N : Nat} {ws r r1 : List Tk} (h : Rdr w R E d B N ws) (hG : Few9 r1) (hx : nameP E ws = .ok (⟨#[102, 105, 115, 99, 97, 108]⟩, r)) (hm : mustP E ⟨#[40]⟩ r = .ok r1) :
    Calls Tryz.prog 216 #[.pointer (some ⟨R, 0, none⟩)] w (PE R E d B N (thenP E ⟨#[41]⟩ (numsP 6 (pairP E (numP E) (numP E) r1))) VN w) := by
  obtain ⟨hN1, hN2⟩ := h.n
  have hmf : ∀ (fn : Fn) (first cap : Array Value) (w : World), (Instr.makeFunc fn first cap).run Tryz.prog w = .ok (.func fn first cap) w := fun _ _ _ _ => rfl
  have HN : Hid (∀ o, Calls Tryz.prog 135 #[.pointer (some ⟨R, 0, none⟩)] (w.alloc o) (PE R E d B N (nameP E ws) VS (w.alloc o))) := fun o => name_any (h.below (below_new4 o))
  rw [hx] at HN
  have HM1 : Hid (∀ (w : World), Rdr w R E d B N r → Calls Tryz.prog 133 #[.pointer (some ⟨R, 0, none⟩), .string ⟨#[40]⟩] w (Ends (mustP E ⟨#[40]⟩ r) (fun w' => Only (· = R) w w') fun r e w' => e = .returned (.tuple #[]) ∧ Rdr w' R E d B N r ∧ Only (· = R) w w')) := fun w h => must_any ⟨#[40]⟩ h (by decide)
  rw [hm] at HM1
  have HC : Hid (∀ (w : World), Rdr w R E d B N r1 → Calls Tryz.prog 232 #[.pointer (some ⟨R, 0, none⟩), .func (.func 99) #[.pointer (some ⟨R, 0, none⟩)] #[], .func (.func 99) #[.pointer (some ⟨R, 0, none⟩)] #[]] w (PE R E d B N (pairP E (numP E) (numP E) r1) VL w)) := fun w h => pairI h 99 99 #[.pointer (some ⟨R, 0, none⟩)] #[] #[.pointer (some ⟨R, 0, none⟩)] #[] (numP E) (numP E) (cf_of Tryz.func99 (by decide +kernel) (by kernel_rfl)) (cf_of Tryz.func99 (by decide +kernel) (by kernel_rfl)) (fun w h => number_any h) (fun w a r e h => number_any h)
  have HM := hide (fun (w : World) (r : List Tk) (h : Rdr w R E d B N r) => must_any ⟨#[41]⟩ h (by decide))
  have HRES : Hid (ResN (w.alloc (.cells #[.int .i64 0, .slice none 0 0, .slice none 0 0, .string ⟨#[]⟩] 49)) w.heap.size) := heap_alloc_new w _
  have HOA : Hid (Only (· = R) w (w.alloc (.cells #[.int .i64 0, .slice none 0 0, .slice none 0 0, .string ⟨#[]⟩] 49))) := Only.alloc _ _ _
  have hzA : (w.alloc (.cells #[.int .i64 0, .slice none 0 0, .slice none 0 0, .string ⟨#[]⟩] 49)).heap.size = w.heap.size + 1 := by simp
  unfold PE Ends VS at HN
  unfold Ends at HM1
  simp only at HN HM1
  clear h hx hm hG
  have HLEN : Hid (∀ l r, pairP E (numP E) (numP E) r1 = .ok (l, r) → l.length ≤ 100000) := fun l r h => by
    exact pairP_len h
  generalize pairP E (numP E) (numP E) r1 = q at *
  go_enter Tryz.func216, Tryz.ntmps216
  go_wp2_with fail
  refine (HN.out _).mono ?_
  rintro e w1 ⟨v, rfl, rfl, hr, ho⟩
  have HR := hide hr
  have HO := hide (HOA.out.trans ho (fun _ _ h => h))
  have hs1 := ho.size
  have HRES1 := hide (HRES.out.only ho (by omega))
  clear hr ho
  go_wp2_with fail
  refine (HM1.out _ HR.out).mono ?_
  rintro e w2 ⟨rfl, hr2, ho2⟩
  have HR2 := hide hr2
  have HO2 := hide (HO.out.trans ho2 (fun _ _ h => h))
  have hs2 := ho2.size
  have HRES2 := hide (HRES1.out.only ho2 (by omega))
  clear hr2 ho2
  go_wp2_with fail
  refine (HC.out _ (HR2.out.below (below_new4 _))).mono ?_
  intro e w4 hz
  have hzB : (w2.alloc (.cells #[.int .i64 0, .slice none 0 0, .slice none 0 0, .string ⟨#[]⟩] 49)).heap.size = w2.heap.size + 1 := by simp
  cases q with
  | error f =>
    obtain ⟨rfl, ho4⟩ := hz
    have HO4 := hide ((HO2.out.trans (Only.alloc _ _ _) (fun _ _ h => h)).trans ho4 (fun _ _ h => h))
    clear ho4
    go_wp2
    exact ⟨rfl, rfl, HO4.out⟩
  | ok p =>
    obtain ⟨l, r4⟩ := p
    obtain ⟨v, rfl, ⟨uo, uc, rfl, hown⟩, hr4, ho4⟩ := hz
    have hll := HLEN.out l r4 rfl
    have HON := hide (vn_of_vl 6 hown hll)
    have HBOX : Hid (ResN w4 w2.heap.size) := heap_only (heap_alloc_new w2 _) ho4 (by omega)
    have HRES4 : Hid (ResN w4 w.heap.size) := heap_only (heap_keep' HRES2.out) ho4 (by omega)
    have hs4 := ho4.size
    have HR4 := hide hr4
    have HO4 := hide ((HO2.out.trans (Only.alloc _ _ _) (fun _ _ h => h)).trans ho4 (fun _ _ h => h))
    have hq : N ≤ w2.heap.size := by omega
    obtain ⟨⟨b0, b1, b2, b3⟩, g0, g1, g2, g3⟩ := HBOX.out.all
    clear hr4 ho4 hown
    go_wp2_with fail
    have HBX := hide (res4 HBOX.out (.int .i64 6) (.slice uo l.length uc) (.slice none 0 0) (.string ⟨#[]⟩))
    have HW4 := hide (only4 w4 w2.heap.size (.int .i64 6) (.slice uo l.length uc) (.slice none 0 0) (.string ⟨#[]⟩))
    have HRX : Hid (Rdr ((((w4.setCell ⟨w2.heap.size, 0, none⟩ (.int .i64 6)).setCell ⟨w2.heap.size, 1, none⟩ (.slice uo l.length uc)).setCell ⟨w2.heap.size, 2, none⟩ (.slice none 0 0)).setCell ⟨w2.heap.size, 3, none⟩ (.string ⟨#[]⟩)) R E d B N r4) := HR4.out.only (((((Below.refl N _).setCell hq _).setCell hq _).setCell hq _).setCell hq _)
    have HOX : Hid (Only (· = R) w ((((w4.setCell ⟨w2.heap.size, 0, none⟩ (.int .i64 6)).setCell ⟨w2.heap.size, 1, none⟩ (.slice uo l.length uc)).setCell ⟨w2.heap.size, 2, none⟩ (.slice none 0 0)).setCell ⟨w2.heap.size, 3, none⟩ (.string ⟨#[]⟩))) := only_set4 HO4.out (by omega) _ _ _ _
    have HRESX : Hid (ResN ((((w4.setCell ⟨w2.heap.size, 0, none⟩ (.int .i64 6)).setCell ⟨w2.heap.size, 1, none⟩ (.slice uo l.length uc)).setCell ⟨w2.heap.size, 2, none⟩ (.slice none 0 0)).setCell ⟨w2.heap.size, 3, none⟩ (.string ⟨#[]⟩)) w.heap.size) := by unfold ResN; rw [HW4.out.block w.heap.size (by omega) (by omega)]; exact hide HRES4.out
    have HMM := hide (HM.out _ r4 HRX.out)
    have hsX := HW4.out.size
    clear HM HBOX b0 b1 b2 b3 g0 g1 g2 g3
    generalize ((((w4.setCell ⟨w2.heap.size, 0, none⟩ (.int .i64 6)).setCell ⟨w2.heap.size, 1, none⟩ (.slice uo l.length uc)).setCell ⟨w2.heap.size, 2, none⟩ (.slice none 0 0)).setCell ⟨w2.heap.size, 3, none⟩ (.string ⟨#[]⟩)) = wX at *
    refine HMM.out.mono ?_
    intro e w7 hz
    obtain ⟨qm, hqm⟩ : ∃ q, mustP E ⟨#[41]⟩ r4 = q := ⟨_, rfl⟩
    rw [hqm] at hz
    cases qm with
    | error f =>
      obtain ⟨rfl, ho7⟩ := hz
      have HQ : Hid (thenP E ⟨#[41]⟩ (numsP 6 (.ok (l, r4))) = .error f) := by refine hide ?_; show (match mustP E ⟨#[41]⟩ r4 with | .error f => _ | .ok r' => _) = _; rw [hqm]
      have HO7 := hide (HOX.out.trans ho7 (fun _ _ h => h))
      clear ho7 hqm
      go_wp2
      refine ⟨rfl, ?_⟩
      rw [HQ.out]
      exact ⟨rfl, HO7.out⟩
    | ok r5 =>
      obtain ⟨rfl, hr7, ho7⟩ := hz
      have HQ : Hid (thenP E ⟨#[41]⟩ (numsP 6 (.ok (l, r4))) = .ok (.mk 6 l [] ⟨#[]⟩, r5)) := by refine hide ?_; show (match mustP E ⟨#[41]⟩ r4 with | .error f => _ | .ok r' => _) = _; rw [hqm]
      have hbox := heap_only HBX.out ho7 (by omega)
      have z0 : w7.cell? ⟨w2.heap.size, 0, none⟩ = some (.int .i64 6) := by rw [cell_of hbox]; rfl
      have z1 : w7.cell? ⟨w2.heap.size, 1, none⟩ = some (.slice uo l.length uc) := by rw [cell_of hbox]; rfl
      have z2 : w7.cell? ⟨w2.heap.size, 2, none⟩ = some (.slice none 0 0) := by rw [cell_of hbox]; rfl
      have z3 : w7.cell? ⟨w2.heap.size, 3, none⟩ = some (.string ⟨#[]⟩) := by rw [cell_of hbox]; rfl
      obtain ⟨⟨q0, q1, q2, q3⟩, f0, f1, f2, f3⟩ := (HRESX.out.only ho7 (by omega)).all
      have hs7 := ho7.size
      have HR7 := hide hr7
      have HO7 := hide (HOX.out.trans ho7 (fun _ _ h => h))
      have HW7 : Hid (Only (fun k => k = R ∨ k = w2.heap.size) w4 w7) := (HW4.out.mono (fun _ _ e => .inr e)).trans ho7 (fun _ _ e => .inl e)
      clear ho7 hr7 hbox hqm
      go_wp2
      refine bodyPost_ret (v := NVal.val ⟨6, uo, l.length, uc, none, 0, 0, ⟨#[]⟩⟩) (by simp [results, Tryz.results216, go_sem, q0, q1, q2, q3, NVal.val, ndV]) rfl ?_
      rw [HQ.out]
      have hW : Only (fun k => k = R ∨ k = w2.heap.size ∨ k = w.heap.size) w4 _ := (HW7.out.mono (fun _ _ e => e.elim .inl (fun e => .inr (.inl e)))).trans (only4 w7 w.heap.size (.int .i64 6) (.slice uo l.length uc) (.slice none 0 0) (.string ⟨#[]⟩)) (fun _ _ e => .inr (.inr e))
      refine ⟨_, rfl, ⟨_, rfl, HON.out.mono (fun b hb => ⟨by omega, Nat.lt_of_lt_of_le hb.2 hW.size⟩) (fun ad u hB hc => hW.cell hc (by omega))⟩, ?_, ?_⟩
      · exact HR7.out.only (((((Below.refl N _).setCell hN1 _).setCell hN1 _).setCell hN1 _).setCell hN1 _)
      · exact only_set4 HO7.out (Nat.le_refl _) _ _ _ _
set_option maxHeartbeats 8000000 in
set_option maxRecDepth 20000 in
theorem call_work {w : World} {R : Nat} {E d : Int} {B N : Nat} {ws r r1 : List Tk} (h : Rdr w R E d B N ws) (hG : Few9 r1) (hx : nameP E ws = .ok (⟨#[119, 111, 114, 107]⟩, r)) (hm : mustP E ⟨#[40]⟩ r = .ok r1) :
    Calls Tryz.prog 216 #[.pointer (some ⟨R, 0, none⟩)] w (PE R E d B N (thenP E ⟨#[41]⟩ (workP E r1)) VN w) := by
  obtain ⟨hN1, hN2⟩ := h.n
  have hmf : ∀ (fn : Fn) (first cap : Array Value) (w : World), (Instr.makeFunc fn first cap).run Tryz.prog w = .ok (.func fn first cap) w := fun _ _ _ _ => rfl
  have HN : Hid (∀ o, Calls Tryz.prog 135 #[.pointer (some ⟨R, 0, none⟩)] (w.alloc o) (PE R E d B N (nameP E ws) VS (w.alloc o))) := fun o => name_any (h.below (below_new4 o))
  rw [hx] at HN
  have HM1 : Hid (∀ (w : World), Rdr w R E d B N r → Calls Tryz.prog 133 #[.pointer (some ⟨R, 0, none⟩), .string ⟨#[40]⟩] w (Ends (mustP E ⟨#[40]⟩ r) (fun w' => Only (· = R) w w') fun r e w' => e = .returned (.tuple #[]) ∧ Rdr w' R E d B N r ∧ Only (· = R) w w')) := fun w h => must_any ⟨#[40]⟩ h (by decide)
  rw [hm] at HM1
  have HC : Hid (∀ (w : World), Rdr w R E d B N r1 → Calls Tryz.prog 233 #[.pointer (some ⟨R, 0, none⟩)] w (PE R E d B N (workP E r1) VN w)) := fun w h => work_any h hG
  have HM := hide (fun (w : World) (r : List Tk) (h : Rdr w R E d B N r) => must_any ⟨#[41]⟩ h (by decide))
  have HRES : Hid (ResN (w.alloc (.cells #[.int .i64 0, .slice none 0 0, .slice none 0 0, .string ⟨#[]⟩] 49)) w.heap.size) := heap_alloc_new w _
  have HOA : Hid (Only (· = R) w (w.alloc (.cells #[.int .i64 0, .slice none 0 0, .slice none 0 0, .string ⟨#[]⟩] 49))) := Only.alloc _ _ _
  have hzA : (w.alloc (.cells #[.int .i64 0, .slice none 0 0, .slice none 0 0, .string ⟨#[]⟩] 49)).heap.size = w.heap.size + 1 := by simp
  unfold PE Ends VS at HN
  unfold Ends at HM1
  simp only at HN HM1
  clear h hx hm hG
  generalize workP E r1 = q at *
  go_enter Tryz.func216, Tryz.ntmps216
  go_wp2_with fail
  refine (HN.out _).mono ?_
  rintro e w1 ⟨v, rfl, rfl, hr, ho⟩
  have HR := hide hr
  have HO := hide (HOA.out.trans ho (fun _ _ h => h))
  have hs1 := ho.size
  have HRES1 := hide (HRES.out.only ho (by omega))
  clear hr ho
  go_wp2_with fail
  refine (HM1.out _ HR.out).mono ?_
  rintro e w2 ⟨rfl, hr2, ho2⟩
  have HR2 := hide hr2
  have HO2 := hide (HO.out.trans ho2 (fun _ _ h => h))
  have hs2 := ho2.size
  have HRES2 := hide (HRES1.out.only ho2 (by omega))
  clear hr2 ho2
  go_wp2_with fail
  refine (HC.out _ (HR2.out.below (below_new4 _))).mono ?_
  intro e w4 hz
  have hzB : (w2.alloc (.cells #[.int .i64 0, .slice none 0 0, .slice none 0 0, .string ⟨#[]⟩] 49)).heap.size = w2.heap.size + 1 := by simp
  cases q with
  | error f =>
    obtain ⟨rfl, ho4⟩ := hz
    have HO4 := hide ((HO2.out.trans (Only.alloc _ _ _) (fun _ _ h => h)).trans ho4 (fun _ _ h => h))
    clear ho4
    go_wp2
    exact ⟨rfl, rfl, HO4.out⟩
  | ok p =>
    obtain ⟨a, r4⟩ := p
    obtain ⟨v, rfl, ⟨nv, rfl, hon⟩, hr4, ho4⟩ := hz
    have HON := hide hon
    clear hon
    have HBOX : Hid (ResN w4 w2.heap.size) := heap_only (heap_alloc_new w2 _) ho4 (by omega)
    have HRES4 : Hid (ResN w4 w.heap.size) := heap_only (heap_keep' HRES2.out) ho4 (by omega)
    have hs4 := ho4.size
    have HR4 := hide hr4
    have HO4 := hide ((HO2.out.trans (Only.alloc _ _ _) (fun _ _ h => h)).trans ho4 (fun _ _ h => h))
    have hq : N ≤ w2.heap.size := by omega
    obtain ⟨⟨b0, b1, b2, b3⟩, g0, g1, g2, g3⟩ := HBOX.out.all
    clear hr4 ho4 
    unfold NVal.val ndV
    go_wp2_with fail
    have HBX := hide (res4 HBOX.out (.int .i64 nv.op) (.slice nv.no nv.nl nv.nc) (.slice nv.ko nv.kl nv.kc) (.string nv.nm))
    have HW4 := hide (only4 w4 w2.heap.size (.int .i64 nv.op) (.slice nv.no nv.nl nv.nc) (.slice nv.ko nv.kl nv.kc) (.string nv.nm))
    have HRX : Hid (Rdr ((((w4.setCell ⟨w2.heap.size, 0, none⟩ (.int .i64 nv.op)).setCell ⟨w2.heap.size, 1, none⟩ (.slice nv.no nv.nl nv.nc)).setCell ⟨w2.heap.size, 2, none⟩ (.slice nv.ko nv.kl nv.kc)).setCell ⟨w2.heap.size, 3, none⟩ (.string nv.nm)) R E d B N r4) := HR4.out.only (((((Below.refl N _).setCell hq _).setCell hq _).setCell hq _).setCell hq _)
    have HOX : Hid (Only (· = R) w ((((w4.setCell ⟨w2.heap.size, 0, none⟩ (.int .i64 nv.op)).setCell ⟨w2.heap.size, 1, none⟩ (.slice nv.no nv.nl nv.nc)).setCell ⟨w2.heap.size, 2, none⟩ (.slice nv.ko nv.kl nv.kc)).setCell ⟨w2.heap.size, 3, none⟩ (.string nv.nm))) := only_set4 HO4.out (by omega) _ _ _ _
    have HRESX : Hid (ResN ((((w4.setCell ⟨w2.heap.size, 0, none⟩ (.int .i64 nv.op)).setCell ⟨w2.heap.size, 1, none⟩ (.slice nv.no nv.nl nv.nc)).setCell ⟨w2.heap.size, 2, none⟩ (.slice nv.ko nv.kl nv.kc)).setCell ⟨w2.heap.size, 3, none⟩ (.string nv.nm)) w.heap.size) := by unfold ResN; rw [HW4.out.block w.heap.size (by omega) (by omega)]; exact hide HRES4.out
    have HMM := hide (HM.out _ r4 HRX.out)
    have hsX := HW4.out.size
    clear HM HBOX b0 b1 b2 b3 g0 g1 g2 g3
    generalize ((((w4.setCell ⟨w2.heap.size, 0, none⟩ (.int .i64 nv.op)).setCell ⟨w2.heap.size, 1, none⟩ (.slice nv.no nv.nl nv.nc)).setCell ⟨w2.heap.size, 2, none⟩ (.slice nv.ko nv.kl nv.kc)).setCell ⟨w2.heap.size, 3, none⟩ (.string nv.nm)) = wX at *
    refine HMM.out.mono ?_
    intro e w7 hz
    obtain ⟨qm, hqm⟩ : ∃ q, mustP E ⟨#[41]⟩ r4 = q := ⟨_, rfl⟩
    rw [hqm] at hz
    cases qm with
    | error f =>
      obtain ⟨rfl, ho7⟩ := hz
      have HQ : Hid (thenP E ⟨#[41]⟩ (.ok (a, r4)) = .error f) := by refine hide ?_; show (match mustP E ⟨#[41]⟩ r4 with | .error f => _ | .ok r' => _) = _; rw [hqm]
      have HO7 := hide (HOX.out.trans ho7 (fun _ _ h => h))
      clear ho7 hqm
      go_wp2
      refine ⟨rfl, ?_⟩
      rw [HQ.out]
      exact ⟨rfl, HO7.out⟩
    | ok r5 =>
      obtain ⟨rfl, hr7, ho7⟩ := hz
      have HQ : Hid (thenP E ⟨#[41]⟩ (.ok (a, r4)) = .ok (a, r5)) := by refine hide ?_; show (match mustP E ⟨#[41]⟩ r4 with | .error f => _ | .ok r' => _) = _; rw [hqm]
      have hbox := heap_only HBX.out ho7 (by omega)
      have z0 : w7.cell? ⟨w2.heap.size, 0, none⟩ = some (.int .i64 nv.op) := by rw [cell_of hbox]; rfl
      have z1 : w7.cell? ⟨w2.heap.size, 1, none⟩ = some (.slice nv.no nv.nl nv.nc) := by rw [cell_of hbox]; rfl
      have z2 : w7.cell? ⟨w2.heap.size, 2, none⟩ = some (.slice nv.ko nv.kl nv.kc) := by rw [cell_of hbox]; rfl
      have z3 : w7.cell? ⟨w2.heap.size, 3, none⟩ = some (.string nv.nm) := by rw [cell_of hbox]; rfl
      obtain ⟨⟨q0, q1, q2, q3⟩, f0, f1, f2, f3⟩ := (HRESX.out.only ho7 (by omega)).all
      have hs7 := ho7.size
      have HR7 := hide hr7
      have HO7 := hide (HOX.out.trans ho7 (fun _ _ h => h))
      have HW7 : Hid (Only (fun k => k = R ∨ k = w2.heap.size) w4 w7) := (HW4.out.mono (fun _ _ e => .inr e)).trans ho7 (fun _ _ e => .inl e)
      clear ho7 hr7 hbox hqm
      go_wp2
      refine bodyPost_ret (v := nv.val) (by simp [results, Tryz.results216, go_sem, q0, q1, q2, q3, NVal.val, ndV]) rfl ?_
      rw [HQ.out]
      have hW : Only (fun k => k = R ∨ k = w2.heap.size ∨ k = w.heap.size) w4 _ := (HW7.out.mono (fun _ _ e => e.elim .inl (fun e => .inr (.inl e)))).trans (only4 w7 w.heap.size (.int .i64 nv.op) (.slice nv.no nv.nl nv.nc) (.slice nv.ko nv.kl nv.kc) (.string nv.nm)) (fun _ _ e => .inr (.inr e))
      refine ⟨_, rfl, ⟨_, rfl, HON.out.mono (fun b hb => ⟨by omega, Nat.lt_of_lt_of_le hb.2 hW.size⟩) (fun ad u hB hc => hW.cell hc (by omega))⟩, ?_, ?_⟩
      · exact HR7.out.only (((((Below.refl N _).setCell hN1 _).setCell hN1 _).setCell hN1 _).setCell hN1 _)
      · exact only_set4 HO7.out (Nat.le_refl _) _ _ _ _
set_option maxHeartbeats 8000000 in
set_option maxRecDepth 20000 in
theorem call_week {w : World} {R : Nat} {E d : Int} {B N : Nat} {ws r r1 : List Tk} (h : Rdr w R E d B N ws) (hG : Few9 r1) (hx : nameP E ws = .ok (⟨#[119, 101, 101, 107]⟩, r)) (hm : mustP E ⟨#[40]⟩ r = .ok r1) :
    Calls Tryz.prog 216 #[.pointer (some ⟨R, 0, none⟩)] w (PE R E d B N (thenP E ⟨#[41]⟩ (weekP E r1)) VN w) := by
  obtain ⟨hN1, hN2⟩ := h.n
  have hmf : ∀ (fn : Fn) (first cap : Array Value) (w : World), (Instr.makeFunc fn first cap).run Tryz.prog w = .ok (.func fn first cap) w := fun _ _ _ _ => rfl
  have HN : Hid (∀ o, Calls Tryz.prog 135 #[.pointer (some ⟨R, 0, none⟩)] (w.alloc o) (PE R E d B N (nameP E ws) VS (w.alloc o))) := fun o => name_any (h.below (below_new4 o))
  rw [hx] at HN
  have HM1 : Hid (∀ (w : World), Rdr w R E d B N r → Calls Tryz.prog 133 #[.pointer (some ⟨R, 0, none⟩), .string ⟨#[40]⟩] w (Ends (mustP E ⟨#[40]⟩ r) (fun w' => Only (· = R) w w') fun r e w' => e = .returned (.tuple #[]) ∧ Rdr w' R E d B N r ∧ Only (· = R) w w')) := fun w h => must_any ⟨#[40]⟩ h (by decide)
  rw [hm] at HM1
  have HC : Hid (∀ (w : World), Rdr w R E d B N r1 → Calls Tryz.prog 228 #[.pointer (some ⟨R, 0, none⟩), .string ⟨#[44]⟩, .int .i64 8192, .func (.func 229) #[.pointer (some ⟨R, 0, none⟩)] #[]] w (PE R E d B N (listP E ⟨#[44]⟩ (choiceP E weekL) 8192 r1) VL w)) := fun w h => listI h 229 #[.pointer (some ⟨R, 0, none⟩)] #[] (choiceP E weekL) ⟨#[44]⟩ (by decide) 8192 (by decide) (fun _ => True) trivial (fun _ _ _ _ _ => ⟨trivial, trivial⟩) (cf_of Tryz.func229 (by decide +kernel) (by kernel_rfl)) (fun w ws _ h => weekday_any h)
  have HM := hide (fun (w : World) (r : List Tk) (h : Rdr w R E d B N r) => must_any ⟨#[41]⟩ h (by decide))
  have HRES : Hid (ResN (w.alloc (.cells #[.int .i64 0, .slice none 0 0, .slice none 0 0, .string ⟨#[]⟩] 49)) w.heap.size) := heap_alloc_new w _
  have HOA : Hid (Only (· = R) w (w.alloc (.cells #[.int .i64 0, .slice none 0 0, .slice none 0 0, .string ⟨#[]⟩] 49))) := Only.alloc _ _ _
  have hzA : (w.alloc (.cells #[.int .i64 0, .slice none 0 0, .slice none 0 0, .string ⟨#[]⟩] 49)).heap.size = w.heap.size + 1 := by simp
  unfold PE Ends VS at HN
  unfold Ends at HM1
  simp only at HN HM1
  clear h hx hm hG
  have HWK : Hid (∀ l r, listP E ⟨#[44]⟩ (choiceP E weekL) 8192 r1 = .ok (l, r) → l.length ≤ 8192 ∧ ∀ a ∈ l, 0 ≤ a ∧ a ≤ 6) := fun l r h =>
    ⟨listP_len _ _ _ _ _ _ _ h, listP_all (Q := fun a => 0 ≤ a ∧ a ≤ 6) (fun ws a r h => by have := (choiceP_suf h).2; have e : weekL.length = 7 := rfl; omega) _ _ _ _ h⟩
  unfold weekP
  generalize listP E ⟨#[44]⟩ (choiceP E weekL) 8192 r1 = q at *
  go_enter Tryz.func216, Tryz.ntmps216
  go_wp2_with fail
  refine (HN.out _).mono ?_
  rintro e w1 ⟨v, rfl, rfl, hr, ho⟩
  have HR := hide hr
  have HO := hide (HOA.out.trans ho (fun _ _ h => h))
  have hs1 := ho.size
  have HRES1 := hide (HRES.out.only ho (by omega))
  clear hr ho
  go_wp2_with fail
  refine (HM1.out _ HR.out).mono ?_
  rintro e w2 ⟨rfl, hr2, ho2⟩
  have HR2 := hide hr2
  have HO2 := hide (HO.out.trans ho2 (fun _ _ h => h))
  have hs2 := ho2.size
  have HRES2 := hide (HRES1.out.only ho2 (by omega))
  clear hr2 ho2
  go_wp2_with fail
  refine (HC.out _ (HR2.out.below (below_new4 _))).mono ?_
  intro e w4a hz
  have hzB : (w2.alloc (.cells #[.int .i64 0, .slice none 0 0, .slice none 0 0, .string ⟨#[]⟩] 49)).heap.size = w2.heap.size + 1 := by simp
  cases q with
  | error f =>
    obtain ⟨rfl, ho4⟩ := hz
    have HO4 := hide ((HO2.out.trans (Only.alloc _ _ _) (fun _ _ h => h)).trans ho4 (fun _ _ h => h))
    clear ho4
    go_wp2
    exact ⟨rfl, rfl, HO4.out⟩
  | ok p =>
    obtain ⟨l, r4⟩ := p
    obtain ⟨v, rfl, hv, hr4a, ho4a⟩ := hz
    obtain ⟨hl1, hl2⟩ := HWK.out l r4 rfl
    have HWN := hide (weekNode_any hv hl1 hl2)
    have HR4A := hide hr4a
    have HO4A := hide ho4a
    have hs4a := ho4a.size
    clear hv hr4a ho4a
    go_wp2_with fail
    refine HWN.out.mono ?_
    rintro e w4 ⟨v', rfl, ⟨nv, rfl, hon⟩, hb5⟩
    have HON := hide hon
    have ho4 := HO4A.out.trans (Only.below hb5) (fun _ _ h => h)
    have hr4 := HR4A.out.below hb5
    clear hon hb5
    have HBOX : Hid (ResN w4 w2.heap.size) := heap_only (heap_alloc_new w2 _) ho4 (by omega)
    have HRES4 : Hid (ResN w4 w.heap.size) := heap_only (heap_keep' HRES2.out) ho4 (by omega)
    have hs4 := ho4.size
    have HR4 := hide hr4
    have HO4 := hide ((HO2.out.trans (Only.alloc _ _ _) (fun _ _ h => h)).trans ho4 (fun _ _ h => h))
    have hq : N ≤ w2.heap.size := by omega
    obtain ⟨⟨b0, b1, b2, b3⟩, g0, g1, g2, g3⟩ := HBOX.out.all
    clear hr4 ho4 HWN
    unfold NVal.val ndV
    go_wp2_with fail
    have HBX := hide (res4 HBOX.out (.int .i64 nv.op) (.slice nv.no nv.nl nv.nc) (.slice nv.ko nv.kl nv.kc) (.string nv.nm))
    have HW4 := hide (only4 w4 w2.heap.size (.int .i64 nv.op) (.slice nv.no nv.nl nv.nc) (.slice nv.ko nv.kl nv.kc) (.string nv.nm))
    have HRX : Hid (Rdr ((((w4.setCell ⟨w2.heap.size, 0, none⟩ (.int .i64 nv.op)).setCell ⟨w2.heap.size, 1, none⟩ (.slice nv.no nv.nl nv.nc)).setCell ⟨w2.heap.size, 2, none⟩ (.slice nv.ko nv.kl nv.kc)).setCell ⟨w2.heap.size, 3, none⟩ (.string nv.nm)) R E d B N r4) := HR4.out.only (((((Below.refl N _).setCell hq _).setCell hq _).setCell hq _).setCell hq _)
    have HOX : Hid (Only (· = R) w ((((w4.setCell ⟨w2.heap.size, 0, none⟩ (.int .i64 nv.op)).setCell ⟨w2.heap.size, 1, none⟩ (.slice nv.no nv.nl nv.nc)).setCell ⟨w2.heap.size, 2, none⟩ (.slice nv.ko nv.kl nv.kc)).setCell ⟨w2.heap.size, 3, none⟩ (.string nv.nm))) := only_set4 HO4.out (by omega) _ _ _ _
    have HRESX : Hid (ResN ((((w4.setCell ⟨w2.heap.size, 0, none⟩ (.int .i64 nv.op)).setCell ⟨w2.heap.size, 1, none⟩ (.slice nv.no nv.nl nv.nc)).setCell ⟨w2.heap.size, 2, none⟩ (.slice nv.ko nv.kl nv.kc)).setCell ⟨w2.heap.size, 3, none⟩ (.string nv.nm)) w.heap.size) := by unfold ResN; rw [HW4.out.block w.heap.size (by omega) (by omega)]; exact hide HRES4.out
    have HMM := hide (HM.out _ r4 HRX.out)
    have hsX := HW4.out.size
    clear HM HBOX b0 b1 b2 b3 g0 g1 g2 g3
    generalize ((((w4.setCell ⟨w2.heap.size, 0, none⟩ (.int .i64 nv.op)).setCell ⟨w2.heap.size, 1, none⟩ (.slice nv.no nv.nl nv.nc)).setCell ⟨w2.heap.size, 2, none⟩ (.slice nv.ko nv.kl nv.kc)).setCell ⟨w2.heap.size, 3, none⟩ (.string nv.nm)) = wX at *
    refine HMM.out.mono ?_
    intro e w7 hz
    obtain ⟨qm, hqm⟩ : ∃ q, mustP E ⟨#[41]⟩ r4 = q := ⟨_, rfl⟩
    rw [hqm] at hz
    cases qm with
    | error f =>
      obtain ⟨rfl, ho7⟩ := hz
      have HQ : Hid (thenP E ⟨#[41]⟩ (.ok (Nd.mk 1 [(bitN l : Int)] [] ⟨#[]⟩, r4)) = .error f) := by refine hide ?_; show (match mustP E ⟨#[41]⟩ r4 with | .error f => _ | .ok r' => _) = _; rw [hqm]
      have HO7 := hide (HOX.out.trans ho7 (fun _ _ h => h))
      clear ho7 hqm
      go_wp2
      refine ⟨rfl, ?_⟩
      rw [HQ.out]
      exact ⟨rfl, HO7.out⟩
    | ok r5 =>
      obtain ⟨rfl, hr7, ho7⟩ := hz
      have HQ : Hid (thenP E ⟨#[41]⟩ (.ok (Nd.mk 1 [(bitN l : Int)] [] ⟨#[]⟩, r4)) = .ok (.mk 1 [(bitN l : Int)] [] ⟨#[]⟩, r5)) := by refine hide ?_; show (match mustP E ⟨#[41]⟩ r4 with | .error f => _ | .ok r' => _) = _; rw [hqm]
      have hbox := heap_only HBX.out ho7 (by omega)
      have z0 : w7.cell? ⟨w2.heap.size, 0, none⟩ = some (.int .i64 nv.op) := by rw [cell_of hbox]; rfl
      have z1 : w7.cell? ⟨w2.heap.size, 1, none⟩ = some (.slice nv.no nv.nl nv.nc) := by rw [cell_of hbox]; rfl
      have z2 : w7.cell? ⟨w2.heap.size, 2, none⟩ = some (.slice nv.ko nv.kl nv.kc) := by rw [cell_of hbox]; rfl
      have z3 : w7.cell? ⟨w2.heap.size, 3, none⟩ = some (.string nv.nm) := by rw [cell_of hbox]; rfl
      obtain ⟨⟨q0, q1, q2, q3⟩, f0, f1, f2, f3⟩ := (HRESX.out.only ho7 (by omega)).all
      have hs7 := ho7.size
      have HR7 := hide hr7
      have HO7 := hide (HOX.out.trans ho7 (fun _ _ h => h))
      have HW7 : Hid (Only (fun k => k = R ∨ k = w2.heap.size) w4 w7) := (HW4.out.mono (fun _ _ e => .inr e)).trans ho7 (fun _ _ e => .inl e)
      clear ho7 hr7 hbox hqm
      go_wp2
      refine bodyPost_ret (v := nv.val) (by simp [results, Tryz.results216, go_sem, q0, q1, q2, q3, NVal.val, ndV]) rfl ?_
      rw [HQ.out]
      have hW : Only (fun k => k = R ∨ k = w2.heap.size ∨ k = w.heap.size) w4 _ := (HW7.out.mono (fun _ _ e => e.elim .inl (fun e => .inr (.inl e)))).trans (only4 w7 w.heap.size (.int .i64 nv.op) (.slice nv.no nv.nl nv.nc) (.slice nv.ko nv.kl nv.kc) (.string nv.nm)) (fun _ _ e => .inr (.inr e))
      refine ⟨_, rfl, ⟨_, rfl, HON.out.mono (fun b hb => ⟨by omega, Nat.lt_of_lt_of_le hb.2 hW.size⟩) (fun ad u hB hc => hW.cell hc (by omega))⟩, ?_, ?_⟩
      · exact HR7.out.only (((((Below.refl N _).setCell hN1 _).setCell hN1 _).setCell hN1 _).setCell hN1 _)
      · exact only_set4 HO7.out (Nat.le_refl _) _ _ _ _
end Go.Proofs.YtkpgfhapffijkaaGreatDoor
