/- Package jdl: one of the words of days. Written by genv.py. -/
import Derived.Test.YtkpgfhapffijkaaDoorJ15
import Derived.Test.YtkpgfhapffijkaaDoorJdM
namespace Go.DsJd
open Go.DsLx Go.DsMk
/-- words whose numbers are small -/
def Few9 (ws : List Tk) : Prop := ∀ t ∈ ws, 0 ≤ t.n ∧ t.n ≤ 999999999
theorem Few9.suf {ws r : List Tk} (h : Few9 ws) (hs : r <:+ ws) : Few9 r := fun t ht => h t (hs.subset ht)
def numsP (op : Int) (x : Except Fl (List Int × List Tk)) : Except Fl (Nd × List Tk) := match x with | .error f => .error f | .ok (l, r) => .ok (.mk op l [] ⟨#[]⟩, r)
end Go.DsJd
namespace Go.Proofs.YtkpgfhapffijkaaDoor
open Go.ChangeShapes Go.WideShapes Go.ChangeAt Go.RowKit Go.DsMem Go.DsLx Go.DsJd Go.DsMk
set_option linter.unusedVariables false
theorem pairP_len {E : Int} {p1 p2 : List Tk → Except Fl (Int × List Tk)} {ws : List Tk} {l : List Int} {r : List Tk} (h : pairP E p1 p2 ws = .ok (l, r)) : l.length ≤ 100000 := by
  unfold pairP at h
  split at h
  · cases h
  · split at h
    · cases h
    · cases h; simp
def weekP (E : Int) (ws : List Tk) : Except Fl (Nd × List Tk) := match listP E ⟨#[44]⟩ (choiceP E weekL) 8192 ws with | .error f => .error f | .ok (l, r) => .ok (.mk 1 [(bitN l : Int)] [] ⟨#[]⟩, r)
theorem vn_of_vl {w w' : World} {l : List Int} {uo : Option Addr} {uc : Nat} (op : Int) (h : w'.ownsRow w.heap.size 2 1 (.slice uo l.length uc) l.length (l.map (.int .i64))) (hl : l.length ≤ 100000) : NdOn (fun b => w.heap.size ≤ b ∧ b < w'.heap.size) w' ⟨op, uo, l.length, uc, none, 0, 0, ⟨#[]⟩⟩ (.mk op l [] ⟨#[]⟩) := by
  have hr : RdI w' (.slice uo l.length uc) l := by
    rcases h.2 with ⟨e, h0⟩ | ⟨g, cap, cur, e, _, hg, hc, _⟩
    · have hz : l = [] := List.eq_nil_of_length_eq_zero h0
      subst hz
      simp only [List.length_nil, Value.slice.injEq] at e
      obtain ⟨rfl, -, rfl⟩ := e
      exact RdI.nil _
    · simp only [Value.slice.injEq] at e
      obtain ⟨rfl, -, rfl⟩ := e
      refine ⟨_, _, rfl, hc, (fun h => by cases h), fun a e j u hu => ?_⟩
      simp only [Option.some.injEq] at e
      subst e
      exact h.cells (g := g) rfl j (.int .i64 u) (by rw [List.getElem?_map, hu]; rfl)
  refine .mk op l [] ⟨#[]⟩ uo uc none 0 0 (fun _ => ⟨0, none, 0, 0, none, 0, 0, ⟨#[]⟩⟩) hr (fun a e => ?_) (by omega) (by simp) (by simp) (fun h => by simp at h) (fun h => by simp at h) (fun j hj => by simp at hj) (fun j hj => by simp at hj)
  subst e
  have := h.lt a.block rfl
  exact this
set_option maxHeartbeats 8000000 in
set_option maxRecDepth 20000 in
theorem call_dates {w : World} {R : Nat} {E d : Int} {B N : Nat} {ws r r1 : List Tk} (h : Rdr w R E d B N ws) (hG : Few9 r1) (hx : nameP E ws = .ok (⟨#[100, 97, 116, 101, 115]⟩, r)) (hm : mustP E ⟨#[40]⟩ r = .ok r1) :
    Calls Tryd.prog 73 #[.pointer (some ⟨R, 0, none⟩)] w (PE R E d B N (thenP E ⟨#[41]⟩ (numsP 2 (datesP E r1))) VN w) := by
  obtain ⟨hN1, hN2⟩ := h.n
  have hmf : ∀ (fn : Fn) (first cap : Array Value) (w : World), (Instr.makeFunc fn first cap).run Tryd.prog w = .ok (.func fn first cap) w := fun _ _ _ _ => rfl
  have HN : Hid (∀ o, Calls Tryd.prog 45 #[.pointer (some ⟨R, 0, none⟩)] (w.alloc o) (PE R E d B N (nameP E ws) VS (w.alloc o))) := fun o => name_any (h.below (below_new4 o))
  rw [hx] at HN
  have HM1 : Hid (∀ (w : World), Rdr w R E d B N r → Calls Tryd.prog 43 #[.pointer (some ⟨R, 0, none⟩), .string ⟨#[40]⟩] w (Ends (mustP E ⟨#[40]⟩ r) (fun w' => Only (· = R) w w') fun r e w' => e = .returned (.tuple #[]) ∧ Rdr w' R E d B N r ∧ Only (· = R) w w')) := fun w h => must_any ⟨#[40]⟩ h (by decide)
  rw [hm] at HM1
  have HC : Hid (∀ (w : World), Rdr w R E d B N r1 → Calls Tryd.prog 82 #[.pointer (some ⟨R, 0, none⟩)] w (PE R E d B N (datesP E r1) VL w)) := fun w h => dates_any h
  have HM := hide (fun (w : World) (r : List Tk) (h : Rdr w R E d B N r) => must_any ⟨#[41]⟩ h (by decide))
  have HRES : Hid (ResN (w.alloc (.cells #[.int .i64 0, .slice none 0 0, .slice none 0 0, .string ⟨#[]⟩] 41)) w.heap.size) := heap_alloc_new w _
  have HOA : Hid (Only (· = R) w (w.alloc (.cells #[.int .i64 0, .slice none 0 0, .slice none 0 0, .string ⟨#[]⟩] 41))) := Only.alloc _ _ _
  have hzA : (w.alloc (.cells #[.int .i64 0, .slice none 0 0, .slice none 0 0, .string ⟨#[]⟩] 41)).heap.size = w.heap.size + 1 := by simp
  unfold PE Ends VS at HN
  unfold Ends at HM1
  simp only at HN HM1
  clear h hx hm hG
  have HLEN : Hid (∀ l r, datesP E r1 = .ok (l, r) → l.length ≤ 100000) := fun l r h => by
    unfold datesP at h
    split at h
    · cases h; simp
    · have := listP_len _ _ _ _ _ _ _ h; omega
  generalize datesP E r1 = q at *
  go_enter Tryd.func73, Tryd.ntmps73
  go_wp2_with fail
  refine (HN.out _).mono ?_
  rintro e w1 ⟨v, rfl, rfl, hr, ho⟩
  have HR := hide hr
  have HO := hide (HOA.out.trans ho (fun _ _ h => h))
  have hs1 := ho.size
  have HRES1 := hide (HRES.out.only ho (by omega))
  clear hr ho
  go_wp2_with fail
  refine (HM1.out _ HR.out).mono ?_
  rintro e w2 ⟨rfl, hr2, ho2⟩
  have HR2 := hide hr2
  have HO2 := hide (HO.out.trans ho2 (fun _ _ h => h))
  have hs2 := ho2.size
  have HRES2 := hide (HRES1.out.only ho2 (by omega))
  clear hr2 ho2
  go_wp2_with fail
  refine (HC.out _ (HR2.out.below (below_new4 _))).mono ?_
  intro e w4 hz
  have hzB : (w2.alloc (.cells #[.int .i64 0, .slice none 0 0, .slice none 0 0, .string ⟨#[]⟩] 41)).heap.size = w2.heap.size + 1 := by simp
  cases q with
  | error f =>
    obtain ⟨rfl, ho4⟩ := hz
    have HO4 := hide ((HO2.out.trans (Only.alloc _ _ _) (fun _ _ h => h)).trans ho4 (fun _ _ h => h))
    clear ho4
    go_wp2
    exact ⟨rfl, rfl, HO4.out⟩
  | ok p =>
    obtain ⟨l, r4⟩ := p
    obtain ⟨v, rfl, ⟨uo, uc, rfl, hown⟩, hr4, ho4⟩ := hz
    have hll := HLEN.out l r4 rfl
    have HON := hide (vn_of_vl 2 hown hll)
    have HBOX : Hid (ResN w4 w2.heap.size) := heap_only (heap_alloc_new w2 _) ho4 (by omega)
    have HRES4 : Hid (ResN w4 w.heap.size) := heap_only (heap_keep' HRES2.out) ho4 (by omega)
    have hs4 := ho4.size
    have HR4 := hide hr4
    have HO4 := hide ((HO2.out.trans (Only.alloc _ _ _) (fun _ _ h => h)).trans ho4 (fun _ _ h => h))
    have hq : N ≤ w2.heap.size := by omega
    obtain ⟨⟨b0, b1, b2, b3⟩, g0, g1, g2, g3⟩ := HBOX.out.all
    clear hr4 ho4 hown
    go_wp2_with fail
    have HBX := hide (res4 HBOX.out (.int .i64 2) (.slice uo l.length uc) (.slice none 0 0) (.string ⟨#[]⟩))
    have HW4 := hide (only4 w4 w2.heap.size (.int .i64 2) (.slice uo l.length uc) (.slice none 0 0) (.string ⟨#[]⟩))
    have HRX : Hid (Rdr ((((w4.setCell ⟨w2.heap.size, 0, none⟩ (.int .i64 2)).setCell ⟨w2.heap.size, 1, none⟩ (.slice uo l.length uc)).setCell ⟨w2.heap.size, 2, none⟩ (.slice none 0 0)).setCell ⟨w2.heap.size, 3, none⟩ (.string ⟨#[]⟩)) R E d B N r4) := HR4.out.only (((((Below.refl N _).setCell hq _).setCell hq _).setCell hq _).setCell hq _)
    have HOX : Hid (Only (· = R) w ((((w4.setCell ⟨w2.heap.size, 0, none⟩ (.int .i64 2)).setCell ⟨w2.heap.size, 1, none⟩ (.slice uo l.length uc)).setCell ⟨w2.heap.size, 2, none⟩ (.slice none 0 0)).setCell ⟨w2.heap.size, 3, none⟩ (.string ⟨#[]⟩))) := only_set4 HO4.out (by omega) _ _ _ _
    have HRESX : Hid (ResN ((((w4.setCell ⟨w2.heap.size, 0, none⟩ (.int .i64 2)).setCell ⟨w2.heap.size, 1, none⟩ (.slice uo l.length uc)).setCell ⟨w2.heap.size, 2, none⟩ (.slice none 0 0)).setCell ⟨w2.heap.size, 3, none⟩ (.string ⟨#[]⟩)) w.heap.size) := by unfold ResN; rw [HW4.out.block w.heap.size (by omega) (by omega)]; exact hide HRES4.out
    have HMM := hide (HM.out _ r4 HRX.out)
    have hsX := HW4.out.size
    clear HM HBOX b0 b1 b2 b3 g0 g1 g2 g3
    generalize ((((w4.setCell ⟨w2.heap.size, 0, none⟩ (.int .i64 2)).setCell ⟨w2.heap.size, 1, none⟩ (.slice uo l.length uc)).setCell ⟨w2.heap.size, 2, none⟩ (.slice none 0 0)).setCell ⟨w2.heap.size, 3, none⟩ (.string ⟨#[]⟩)) = wX at *
    refine HMM.out.mono ?_
    intro e w7 hz
    obtain ⟨qm, hqm⟩ : ∃ q, mustP E ⟨#[41]⟩ r4 = q := ⟨_, rfl⟩
    rw [hqm] at hz
    cases qm with
    | error f =>
      obtain ⟨rfl, ho7⟩ := hz
      have HQ : Hid (thenP E ⟨#[41]⟩ (numsP 2 (.ok (l, r4))) = .error f) := by refine hide ?_; show (match mustP E ⟨#[41]⟩ r4 with | .error f => _ | .ok r' => _) = _; rw [hqm]
      have HO7 := hide (HOX.out.trans ho7 (fun _ _ h => h))
      clear ho7 hqm
      go_wp2
      refine ⟨rfl, ?_⟩
      rw [HQ.out]
      exact ⟨rfl, HO7.out⟩
    | ok r5 =>
      obtain ⟨rfl, hr7, ho7⟩ := hz
      have HQ : Hid (thenP E ⟨#[41]⟩ (numsP 2 (.ok (l, r4))) = .ok (.mk 2 l [] ⟨#[]⟩, r5)) := by refine hide ?_; show (match mustP E ⟨#[41]⟩ r4 with | .error f => _ | .ok r' => _) = _; rw [hqm]
      have hbox := heap_only HBX.out ho7 (by omega)
      have z0 : w7.cell? ⟨w2.heap.size, 0, none⟩ = some (.int .i64 2) := by rw [cell_of hbox]; rfl
      have z1 : w7.cell? ⟨w2.heap.size, 1, none⟩ = some (.slice uo l.length uc) := by rw [cell_of hbox]; rfl
      have z2 : w7.cell? ⟨w2.heap.size, 2, none⟩ = some (.slice none 0 0) := by rw [cell_of hbox]; rfl
      have z3 : w7.cell? ⟨w2.heap.size, 3, none⟩ = some (.string ⟨#[]⟩) := by rw [cell_of hbox]; rfl
      obtain ⟨⟨q0, q1, q2, q3⟩, f0, f1, f2, f3⟩ := (HRESX.out.only ho7 (by omega)).all
      have hs7 := ho7.size
      have HR7 := hide hr7
      have HO7 := hide (HOX.out.trans ho7 (fun _ _ h => h))
      have HW7 : Hid (Only (fun k => k = R ∨ k = w2.heap.size) w4 w7) := (HW4.out.mono (fun _ _ e => .inr e)).trans ho7 (fun _ _ e => .inl e)
      clear ho7 hr7 hbox hqm
      go_wp2
      refine bodyPost_ret (v := NVal.val ⟨2, uo, l.length, uc, none, 0, 0, ⟨#[]⟩⟩) (by simp [results, Tryd.results73, go_sem, q0, q1, q2, q3, NVal.val, ndV]) rfl ?_
      rw [HQ.out]
      have hW : Only (fun k => k = R ∨ k = w2.heap.size ∨ k = w.heap.size) w4 _ := (HW7.out.mono (fun _ _ e => e.elim .inl (fun e => .inr (.inl e)))).trans (only4 w7 w.heap.size (.int .i64 2) (.slice uo l.length uc) (.slice none 0 0) (.string ⟨#[]⟩)) (fun _ _ e => .inr (.inr e))
      refine ⟨_, rfl, ⟨_, rfl, HON.out.mono (fun b hb => ⟨by omega, Nat.lt_of_lt_of_le hb.2 hW.size⟩) (fun ad u hB hc => hW.cell hc (by omega))⟩, ?_, ?_⟩
      · exact HR7.out.only (((((Below.refl N _).setCell hN1 _).setCell hN1 _).setCell hN1 _).setCell hN1 _)
      · exact only_set4 HO7.out (Nat.le_refl _) _ _ _ _
set_option maxHeartbeats 8000000 in
set_option maxRecDepth 20000 in
theorem call_month {w : World} {R : Nat} {E d : Int} {B N : Nat} {ws r r1 : List Tk} (h : Rdr w R E d B N ws) (hG : Few9 r1) (hx : nameP E ws = .ok (⟨#[109, 111, 110, 116, 104]⟩, r)) (hm : mustP E ⟨#[40]⟩ r = .ok r1) :
    Calls Tryd.prog 73 #[.pointer (some ⟨R, 0, none⟩)] w (PE R E d B N (thenP E ⟨#[41]⟩ (numsP 3 (listP E ⟨#[44]⟩ (intP E) 64 r1))) VN w) := by
  obtain ⟨hN1, hN2⟩ := h.n
  have hmf : ∀ (fn : Fn) (first cap : Array Value) (w : World), (Instr.makeFunc fn first cap).run Tryd.prog w = .ok (.func fn first cap) w := fun _ _ _ _ => rfl
  have HN : Hid (∀ o, Calls Tryd.prog 45 #[.pointer (some ⟨R, 0, none⟩)] (w.alloc o) (PE R E d B N (nameP E ws) VS (w.alloc o))) := fun o => name_any (h.below (below_new4 o))
  rw [hx] at HN
  have HM1 : Hid (∀ (w : World), Rdr w R E d B N r → Calls Tryd.prog 43 #[.pointer (some ⟨R, 0, none⟩), .string ⟨#[40]⟩] w (Ends (mustP E ⟨#[40]⟩ r) (fun w' => Only (· = R) w w') fun r e w' => e = .returned (.tuple #[]) ∧ Rdr w' R E d B N r ∧ Only (· = R) w w')) := fun w h => must_any ⟨#[40]⟩ h (by decide)
  rw [hm] at HM1
  have HC : Hid (∀ (w : World), Rdr w R E d B N r1 → Calls Tryd.prog 80 #[.pointer (some ⟨R, 0, none⟩), .string ⟨#[44]⟩, .int .i64 64, .func (.func 83) #[.pointer (some ⟨R, 0, none⟩)] #[]] w (PE R E d B N (listP E ⟨#[44]⟩ (intP E) 64 r1) VL w)) := fun w h => listI h 83 #[.pointer (some ⟨R, 0, none⟩)] #[] (intP E) ⟨#[44]⟩ (by decide) 64 (by decide) Few9 hG (fun ws a r hg e => ⟨hg.suf (intP_suf e), hg.suf ((List.tail_suffix _).trans (intP_suf e))⟩) (cf_of Tryd.func83 (by decide +kernel) (by kernel_rfl)) (fun w ws hg h => integer_any h hg)
  have HM := hide (fun (w : World) (r : List Tk) (h : Rdr w R E d B N r) => must_any ⟨#[41]⟩ h (by decide))
  have HRES : Hid (ResN (w.alloc (.cells #[.int .i64 0, .slice none 0 0, .slice none 0 0, .string ⟨#[]⟩] 41)) w.heap.size) := heap_alloc_new w _
  have HOA : Hid (Only (· = R) w (w.alloc (.cells #[.int .i64 0, .slice none 0 0, .slice none 0 0, .string ⟨#[]⟩] 41))) := Only.alloc _ _ _
  have hzA : (w.alloc (.cells #[.int .i64 0, .slice none 0 0, .slice none 0 0, .string ⟨#[]⟩] 41)).heap.size = w.heap.size + 1 := by simp
  unfold PE Ends VS at HN
  unfold Ends at HM1
  simp only at HN HM1
  clear h hx hm hG
  have HLEN : Hid (∀ l r, listP E ⟨#[44]⟩ (intP E) 64 r1 = .ok (l, r) → l.length ≤ 100000) := fun l r h => by
    have := listP_len _ _ _ _ _ _ _ h; omega
  generalize listP E ⟨#[44]⟩ (intP E) 64 r1 = q at *
  go_enter Tryd.func73, Tryd.ntmps73
  go_wp2_with fail
  refine (HN.out _).mono ?_
  rintro e w1 ⟨v, rfl, rfl, hr, ho⟩
  have HR := hide hr
  have HO := hide (HOA.out.trans ho (fun _ _ h => h))
  have hs1 := ho.size
  have HRES1 := hide (HRES.out.only ho (by omega))
  clear hr ho
  go_wp2_with fail
  refine (HM1.out _ HR.out).mono ?_
  rintro e w2 ⟨rfl, hr2, ho2⟩
  have HR2 := hide hr2
  have HO2 := hide (HO.out.trans ho2 (fun _ _ h => h))
  have hs2 := ho2.size
  have HRES2 := hide (HRES1.out.only ho2 (by omega))
  clear hr2 ho2
  go_wp2_with fail
  refine (HC.out _ (HR2.out.below (below_new4 _))).mono ?_
  intro e w4 hz
  have hzB : (w2.alloc (.cells #[.int .i64 0, .slice none 0 0, .slice none 0 0, .string ⟨#[]⟩] 41)).heap.size = w2.heap.size + 1 := by simp
  cases q with
  | error f =>
    obtain ⟨rfl, ho4⟩ := hz
    have HO4 := hide ((HO2.out.trans (Only.alloc _ _ _) (fun _ _ h => h)).trans ho4 (fun _ _ h => h))
    clear ho4
    go_wp2
    exact ⟨rfl, rfl, HO4.out⟩
  | ok p =>
    obtain ⟨l, r4⟩ := p
    obtain ⟨v, rfl, ⟨uo, uc, rfl, hown⟩, hr4, ho4⟩ := hz
    have hll := HLEN.out l r4 rfl
    have HON := hide (vn_of_vl 3 hown hll)
    have HBOX : Hid (ResN w4 w2.heap.size) := heap_only (heap_alloc_new w2 _) ho4 (by omega)
    have HRES4 : Hid (ResN w4 w.heap.size) := heap_only (heap_keep' HRES2.out) ho4 (by omega)
    have hs4 := ho4.size
    have HR4 := hide hr4
    have HO4 := hide ((HO2.out.trans (Only.alloc _ _ _) (fun _ _ h => h)).trans ho4 (fun _ _ h => h))
    have hq : N ≤ w2.heap.size := by omega
    obtain ⟨⟨b0, b1, b2, b3⟩, g0, g1, g2, g3⟩ := HBOX.out.all
    clear hr4 ho4 hown
    go_wp2_with fail
    have HBX := hide (res4 HBOX.out (.int .i64 3) (.slice uo l.length uc) (.slice none 0 0) (.string ⟨#[]⟩))
    have HW4 := hide (only4 w4 w2.heap.size (.int .i64 3) (.slice uo l.length uc) (.slice none 0 0) (.string ⟨#[]⟩))
    have HRX : Hid (Rdr ((((w4.setCell ⟨w2.heap.size, 0, none⟩ (.int .i64 3)).setCell ⟨w2.heap.size, 1, none⟩ (.slice uo l.length uc)).setCell ⟨w2.heap.size, 2, none⟩ (.slice none 0 0)).setCell ⟨w2.heap.size, 3, none⟩ (.string ⟨#[]⟩)) R E d B N r4) := HR4.out.only (((((Below.refl N _).setCell hq _).setCell hq _).setCell hq _).setCell hq _)
    have HOX : Hid (Only (· = R) w ((((w4.setCell ⟨w2.heap.size, 0, none⟩ (.int .i64 3)).setCell ⟨w2.heap.size, 1, none⟩ (.slice uo l.length uc)).setCell ⟨w2.heap.size, 2, none⟩ (.slice none 0 0)).setCell ⟨w2.heap.size, 3, none⟩ (.string ⟨#[]⟩))) := only_set4 HO4.out (by omega) _ _ _ _
    have HRESX : Hid (ResN ((((w4.setCell ⟨w2.heap.size, 0, none⟩ (.int .i64 3)).setCell ⟨w2.heap.size, 1, none⟩ (.slice uo l.length uc)).setCell ⟨w2.heap.size, 2, none⟩ (.slice none 0 0)).setCell ⟨w2.heap.size, 3, none⟩ (.string ⟨#[]⟩)) w.heap.size) := by unfold ResN; rw [HW4.out.block w.heap.size (by omega) (by omega)]; exact hide HRES4.out
    have HMM := hide (HM.out _ r4 HRX.out)
    have hsX := HW4.out.size
    clear HM HBOX b0 b1 b2 b3 g0 g1 g2 g3
    generalize ((((w4.setCell ⟨w2.heap.size, 0, none⟩ (.int .i64 3)).setCell ⟨w2.heap.size, 1, none⟩ (.slice uo l.length uc)).setCell ⟨w2.heap.size, 2, none⟩ (.slice none 0 0)).setCell ⟨w2.heap.size, 3, none⟩ (.string ⟨#[]⟩)) = wX at *
    refine HMM.out.mono ?_
    intro e w7 hz
    obtain ⟨qm, hqm⟩ : ∃ q, mustP E ⟨#[41]⟩ r4 = q := ⟨_, rfl⟩
    rw [hqm] at hz
    cases qm with
    | error f =>
      obtain ⟨rfl, ho7⟩ := hz
      have HQ : Hid (thenP E ⟨#[41]⟩ (numsP 3 (.ok (l, r4))) = .error f) := by refine hide ?_; show (match mustP E ⟨#[41]⟩ r4 with | .error f => _ | .ok r' => _) = _; rw [hqm]
      have HO7 := hide (HOX.out.trans ho7 (fun _ _ h => h))
      clear ho7 hqm
      go_wp2
      refine ⟨rfl, ?_⟩
      rw [HQ.out]
      exact ⟨rfl, HO7.out⟩
    | ok r5 =>
      obtain ⟨rfl, hr7, ho7⟩ := hz
      have HQ : Hid (thenP E ⟨#[41]⟩ (numsP 3 (.ok (l, r4))) = .ok (.mk 3 l [] ⟨#[]⟩, r5)) := by refine hide ?_; show (match mustP E ⟨#[41]⟩ r4 with | .error f => _ | .ok r' => _) = _; rw [hqm]
      have hbox := heap_only HBX.out ho7 (by omega)
      have z0 : w7.cell? ⟨w2.heap.size, 0, none⟩ = some (.int .i64 3) := by rw [cell_of hbox]; rfl
      have z1 : w7.cell? ⟨w2.heap.size, 1, none⟩ = some (.slice uo l.length uc) := by rw [cell_of hbox]; rfl
      have z2 : w7.cell? ⟨w2.heap.size, 2, none⟩ = some (.slice none 0 0) := by rw [cell_of hbox]; rfl
      have z3 : w7.cell? ⟨w2.heap.size, 3, none⟩ = some (.string ⟨#[]⟩) := by rw [cell_of hbox]; rfl
      obtain ⟨⟨q0, q1, q2, q3⟩, f0, f1, f2, f3⟩ := (HRESX.out.only ho7 (by omega)).all
      have hs7 := ho7.size
      have HR7 := hide hr7
      have HO7 := hide (HOX.out.trans ho7 (fun _ _ h => h))
      have HW7 : Hid (Only (fun k => k = R ∨ k = w2.heap.size) w4 w7) := (HW4.out.mono (fun _ _ e => .inr e)).trans ho7 (fun _ _ e => .inl e)
      clear ho7 hr7 hbox hqm
      go_wp2
      refine bodyPost_ret (v := NVal.val ⟨3, uo, l.length, uc, none, 0, 0, ⟨#[]⟩⟩) (by simp [results, Tryd.results73, go_sem, q0, q1, q2, q3, NVal.val, ndV]) rfl ?_
      rw [HQ.out]
      have hW : Only (fun k => k = R ∨ k = w2.heap.size ∨ k = w.heap.size) w4 _ := (HW7.out.mono (fun _ _ e => e.elim .inl (fun e => .inr (.inl e)))).trans (only4 w7 w.heap.size (.int .i64 3) (.slice uo l.length uc) (.slice none 0 0) (.string ⟨#[]⟩)) (fun _ _ e => .inr (.inr e))
      refine ⟨_, rfl, ⟨_, rfl, HON.out.mono (fun b hb => ⟨by omega, Nat.lt_of_lt_of_le hb.2 hW.size⟩) (fun ad u hB hc => hW.cell hc (by omega))⟩, ?_, ?_⟩
      · exact HR7.out.only (((((Below.refl N _).setCell hN1 _).setCell hN1 _).setCell hN1 _).setCell hN1 _)
      · exact only_set4 HO7.out (Nat.le_refl _) _ _ _ _
set_option maxHeartbeats 8000000 in
set_option maxRecDepth 20000 in
theorem call_nth {w : World} {R : Nat} {E d : Int} {B N : Nat} {ws r r1 : List Tk} (h : Rdr w R E d B N ws) (hG : Few9 r1) (hx : nameP E ws = .ok (⟨#[110, 116, 104]⟩, r)) (hm : mustP E ⟨#[40]⟩ r = .ok r1) :
    Calls Tryd.prog 73 #[.pointer (some ⟨R, 0, none⟩)] w (PE R E d B N (thenP E ⟨#[41]⟩ (numsP 4 (pairP E (choiceP E weekL) (intP E) r1))) VN w) := by
  obtain ⟨hN1, hN2⟩ := h.n
  have hmf : ∀ (fn : Fn) (first cap : Array Value) (w : World), (Instr.makeFunc fn first cap).run Tryd.prog w = .ok (.func fn first cap) w := fun _ _ _ _ => rfl
  have HN : Hid (∀ o, Calls Tryd.prog 45 #[.pointer (some ⟨R, 0, none⟩)] (w.alloc o) (PE R E d B N (nameP E ws) VS (w.alloc o))) := fun o => name_any (h.below (below_new4 o))
  rw [hx] at HN
  have HM1 : Hid (∀ (w : World), Rdr w R E d B N r → Calls Tryd.prog 43 #[.pointer (some ⟨R, 0, none⟩), .string ⟨#[40]⟩] w (Ends (mustP E ⟨#[40]⟩ r) (fun w' => Only (· = R) w w') fun r e w' => e = .returned (.tuple #[]) ∧ Rdr w' R E d B N r ∧ Only (· = R) w w')) := fun w h => must_any ⟨#[40]⟩ h (by decide)
  rw [hm] at HM1
  have HC : Hid (∀ (w : World), Rdr w R E d B N r1 → Calls Tryd.prog 84 #[.pointer (some ⟨R, 0, none⟩), .func (.func 81) #[.pointer (some ⟨R, 0, none⟩)] #[], .func (.func 83) #[.pointer (some ⟨R, 0, none⟩)] #[]] w (PE R E d B N (pairP E (choiceP E weekL) (intP E) r1) VL w)) := fun w h => pairI h 81 83 #[.pointer (some ⟨R, 0, none⟩)] #[] #[.pointer (some ⟨R, 0, none⟩)] #[] (choiceP E weekL) (intP E) (cf_of Tryd.func81 (by decide +kernel) (by kernel_rfl)) (cf_of Tryd.func83 (by decide +kernel) (by kernel_rfl)) (fun w h => weekday_any h) (fun w a r e h => integer_any h (hG.suf (thenP_suf (fun a r h => (choiceP_suf h).1) e)))
  have HM := hide (fun (w : World) (r : List Tk) (h : Rdr w R E d B N r) => must_any ⟨#[41]⟩ h (by decide))
  have HRES : Hid (ResN (w.alloc (.cells #[.int .i64 0, .slice none 0 0, .slice none 0 0, .string ⟨#[]⟩] 41)) w.heap.size) := heap_alloc_new w _
  have HOA : Hid (Only (· = R) w (w.alloc (.cells #[.int .i64 0, .slice none 0 0, .slice none 0 0, .string ⟨#[]⟩] 41))) := Only.alloc _ _ _
  have hzA : (w.alloc (.cells #[.int .i64 0, .slice none 0 0, .slice none 0 0, .string ⟨#[]⟩] 41)).heap.size = w.heap.size + 1 := by simp
  unfold PE Ends VS at HN
  unfold Ends at HM1
  simp only at HN HM1
  clear h hx hm hG
  have HLEN : Hid (∀ l r, pairP E (choiceP E weekL) (intP E) r1 = .ok (l, r) → l.length ≤ 100000) := fun l r h => by
    exact pairP_len h
  generalize pairP E (choiceP E weekL) (intP E) r1 = q at *
  go_enter Tryd.func73, Tryd.ntmps73
  go_wp2_with fail
  refine (HN.out _).mono ?_
  rintro e w1 ⟨v, rfl, rfl, hr, ho⟩
  have HR := hide hr
  have HO := hide (HOA.out.trans ho (fun _ _ h => h))
  have hs1 := ho.size
  have HRES1 := hide (HRES.out.only ho (by omega))
  clear hr ho
  go_wp2_with fail
  refine (HM1.out _ HR.out).mono ?_
  rintro e w2 ⟨rfl, hr2, ho2⟩
  have HR2 := hide hr2
  have HO2 := hide (HO.out.trans ho2 (fun _ _ h => h))
  have hs2 := ho2.size
  have HRES2 := hide (HRES1.out.only ho2 (by omega))
  clear hr2 ho2
  go_wp2_with fail
  refine (HC.out _ (HR2.out.below (below_new4 _))).mono ?_
  intro e w4 hz
  have hzB : (w2.alloc (.cells #[.int .i64 0, .slice none 0 0, .slice none 0 0, .string ⟨#[]⟩] 41)).heap.size = w2.heap.size + 1 := by simp
  cases q with
  | error f =>
    obtain ⟨rfl, ho4⟩ := hz
    have HO4 := hide ((HO2.out.trans (Only.alloc _ _ _) (fun _ _ h => h)).trans ho4 (fun _ _ h => h))
    clear ho4
    go_wp2
    exact ⟨rfl, rfl, HO4.out⟩
  | ok p =>
    obtain ⟨l, r4⟩ := p
    obtain ⟨v, rfl, ⟨uo, uc, rfl, hown⟩, hr4, ho4⟩ := hz
    have hll := HLEN.out l r4 rfl
    have HON := hide (vn_of_vl 4 hown hll)
    have HBOX : Hid (ResN w4 w2.heap.size) := heap_only (heap_alloc_new w2 _) ho4 (by omega)
    have HRES4 : Hid (ResN w4 w.heap.size) := heap_only (heap_keep' HRES2.out) ho4 (by omega)
    have hs4 := ho4.size
    have HR4 := hide hr4
    have HO4 := hide ((HO2.out.trans (Only.alloc _ _ _) (fun _ _ h => h)).trans ho4 (fun _ _ h => h))
    have hq : N ≤ w2.heap.size := by omega
    obtain ⟨⟨b0, b1, b2, b3⟩, g0, g1, g2, g3⟩ := HBOX.out.all
    clear hr4 ho4 hown
    go_wp2_with fail
    have HBX := hide (res4 HBOX.out (.int .i64 4) (.slice uo l.length uc) (.slice none 0 0) (.string ⟨#[]⟩))
    have HW4 := hide (only4 w4 w2.heap.size (.int .i64 4) (.slice uo l.length uc) (.slice none 0 0) (.string ⟨#[]⟩))
    have HRX : Hid (Rdr ((((w4.setCell ⟨w2.heap.size, 0, none⟩ (.int .i64 4)).setCell ⟨w2.heap.size, 1, none⟩ (.slice uo l.length uc)).setCell ⟨w2.heap.size, 2, none⟩ (.slice none 0 0)).setCell ⟨w2.heap.size, 3, none⟩ (.string ⟨#[]⟩)) R E d B N r4) := HR4.out.only (((((Below.refl N _).setCell hq _).setCell hq _).setCell hq _).setCell hq _)
    have HOX : Hid (Only (· = R) w ((((w4.setCell ⟨w2.heap.size, 0, none⟩ (.int .i64 4)).setCell ⟨w2.heap.size, 1, none⟩ (.slice uo l.length uc)).setCell ⟨w2.heap.size, 2, none⟩ (.slice none 0 0)).setCell ⟨w2.heap.size, 3, none⟩ (.string ⟨#[]⟩))) := only_set4 HO4.out (by omega) _ _ _ _
    have HRESX : Hid (ResN ((((w4.setCell ⟨w2.heap.size, 0, none⟩ (.int .i64 4)).setCell ⟨w2.heap.size, 1, none⟩ (.slice uo l.length uc)).setCell ⟨w2.heap.size, 2, none⟩ (.slice none 0 0)).setCell ⟨w2.heap.size, 3, none⟩ (.string ⟨#[]⟩)) w.heap.size) := by unfold ResN; rw [HW4.out.block w.heap.size (by omega) (by omega)]; exact hide HRES4.out
    have HMM := hide (HM.out _ r4 HRX.out)
    have hsX := HW4.out.size
    clear HM HBOX b0 b1 b2 b3 g0 g1 g2 g3
    generalize ((((w4.setCell ⟨w2.heap.size, 0, none⟩ (.int .i64 4)).setCell ⟨w2.heap.size, 1, none⟩ (.slice uo l.length uc)).setCell ⟨w2.heap.size, 2, none⟩ (.slice none 0 0)).setCell ⟨w2.heap.size, 3, none⟩ (.string ⟨#[]⟩)) = wX at *
    refine HMM.out.mono ?_
    intro e w7 hz
    obtain ⟨qm, hqm⟩ : ∃ q, mustP E ⟨#[41]⟩ r4 = q := ⟨_, rfl⟩
    rw [hqm] at hz
    cases qm with
    | error f =>
      obtain ⟨rfl, ho7⟩ := hz
      have HQ : Hid (thenP E ⟨#[41]⟩ (numsP 4 (.ok (l, r4))) = .error f) := by refine hide ?_; show (match mustP E ⟨#[41]⟩ r4 with | .error f => _ | .ok r' => _) = _; rw [hqm]
      have HO7 := hide (HOX.out.trans ho7 (fun _ _ h => h))
      clear ho7 hqm
      go_wp2
      refine ⟨rfl, ?_⟩
      rw [HQ.out]
      exact ⟨rfl, HO7.out⟩
    | ok r5 =>
      obtain ⟨rfl, hr7, ho7⟩ := hz
      have HQ : Hid (thenP E ⟨#[41]⟩ (numsP 4 (.ok (l, r4))) = .ok (.mk 4 l [] ⟨#[]⟩, r5)) := by refine hide ?_; show (match mustP E ⟨#[41]⟩ r4 with | .error f => _ | .ok r' => _) = _; rw [hqm]
      have hbox := heap_only HBX.out ho7 (by omega)
      have z0 : w7.cell? ⟨w2.heap.size, 0, none⟩ = some (.int .i64 4) := by rw [cell_of hbox]; rfl
      have z1 : w7.cell? ⟨w2.heap.size, 1, none⟩ = some (.slice uo l.length uc) := by rw [cell_of hbox]; rfl
      have z2 : w7.cell? ⟨w2.heap.size, 2, none⟩ = some (.slice none 0 0) := by rw [cell_of hbox]; rfl
      have z3 : w7.cell? ⟨w2.heap.size, 3, none⟩ = some (.string ⟨#[]⟩) := by rw [cell_of hbox]; rfl
      obtain ⟨⟨q0, q1, q2, q3⟩, f0, f1, f2, f3⟩ := (HRESX.out.only ho7 (by omega)).all
      have hs7 := ho7.size
      have HR7 := hide hr7
      have HO7 := hide (HOX.out.trans ho7 (fun _ _ h => h))
      have HW7 : Hid (Only (fun k => k = R ∨ k = w2.heap.size) w4 w7) := (HW4.out.mono (fun _ _ e => .inr e)).trans ho7 (fun _ _ e => .inl e)
      clear ho7 hr7 hbox hqm
      go_wp2
      refine bodyPost_ret (v := NVal.val ⟨4, uo, l.length, uc, none, 0, 0, ⟨#[]⟩⟩) (by simp [results, Tryd.results73, go_sem, q0, q1, q2, q3, NVal.val, ndV]) rfl ?_
      rw [HQ.out]
      have hW : Only (fun k => k = R ∨ k = w2.heap.size ∨ k = w.heap.size) w4 _ := (HW7.out.mono (fun _ _ e => e.elim .inl (fun e => .inr (.inl e)))).trans (only4 w7 w.heap.size (.int .i64 4) (.slice uo l.length uc) (.slice none 0 0) (.string ⟨#[]⟩)) (fun _ _ e => .inr (.inr e))
      refine ⟨_, rfl, ⟨_, rfl, HON.out.mono (fun b hb => ⟨by omega, Nat.lt_of_lt_of_le hb.2 hW.size⟩) (fun ad u hB hc => hW.cell hc (by omega))⟩, ?_, ?_⟩
      · exact HR7.out.only (((((Below.refl N _).setCell hN1 _).setCell hN1 _).setCell hN1 _).setCell hN1 _)
      · exact only_set4 HO7.out (Nat.le_refl _) _ _ _ _
set_option maxHeartbeats 8000000 in
set_option maxRecDepth 20000 in
theorem call_fiscal {w : World} {R : Nat} {E d : Int} {B N : Nat} {ws r r1 : List Tk} (h : Rdr w R E d B N ws) (hG : Few9 r1) (hx : nameP E ws = .ok (⟨#[102, 105, 115, 99, 97, 108]⟩, r)) (hm : mustP E ⟨#[40]⟩ r = .ok r1) :
    Calls Tryd.prog 73 #[.pointer (some ⟨R, 0, none⟩)] w (PE R E d B N (thenP E ⟨#[41]⟩ (numsP 6 (pairP E (numP E) (numP E) r1))) VN w) := by
  obtain ⟨hN1, hN2⟩ := h.n
  have hmf : ∀ (fn : Fn) (first cap : Array Value) (w : World), (Instr.makeFunc fn first cap).run Tryd.prog w = .ok (.func fn first cap) w := fun _ _ _ _ => rfl
  have HN : Hid (∀ o, Calls Tryd.prog 45 #[.pointer (some ⟨R, 0, none⟩)] (w.alloc o) (PE R E d B N (nameP E ws) VS (w.alloc o))) := fun o => name_any (h.below (below_new4 o))
  rw [hx] at HN
  have HM1 : Hid (∀ (w : World), Rdr w R E d B N r → Calls Tryd.prog 43 #[.pointer (some ⟨R, 0, none⟩), .string ⟨#[40]⟩] w (Ends (mustP E ⟨#[40]⟩ r) (fun w' => Only (· = R) w w') fun r e w' => e = .returned (.tuple #[]) ∧ Rdr w' R E d B N r ∧ Only (· = R) w w')) := fun w h => must_any ⟨#[40]⟩ h (by decide)
  rw [hm] at HM1
  have HC : Hid (∀ (w : World), Rdr w R E d B N r1 → Calls Tryd.prog 84 #[.pointer (some ⟨R, 0, none⟩), .func (.func 31) #[.pointer (some ⟨R, 0, none⟩)] #[], .func (.func 31) #[.pointer (some ⟨R, 0, none⟩)] #[]] w (PE R E d B N (pairP E (numP E) (numP E) r1) VL w)) := fun w h => pairI h 31 31 #[.pointer (some ⟨R, 0, none⟩)] #[] #[.pointer (some ⟨R, 0, none⟩)] #[] (numP E) (numP E) (cf_of Tryd.func31 (by decide +kernel) (by kernel_rfl)) (cf_of Tryd.func31 (by decide +kernel) (by kernel_rfl)) (fun w h => number_any h) (fun w a r e h => number_any h)
  have HM := hide (fun (w : World) (r : List Tk) (h : Rdr w R E d B N r) => must_any ⟨#[41]⟩ h (by decide))
  have HRES : Hid (ResN (w.alloc (.cells #[.int .i64 0, .slice none 0 0, .slice none 0 0, .string ⟨#[]⟩] 41)) w.heap.size) := heap_alloc_new w _
  have HOA : Hid (Only (· = R) w (w.alloc (.cells #[.int .i64 0, .slice none 0 0, .slice none 0 0, .string ⟨#[]⟩] 41))) := Only.alloc _ _ _
  have hzA : (w.alloc (.cells #[.int .i64 0, .slice none 0 0, .slice none 0 0, .string ⟨#[]⟩] 41)).heap.size = w.heap.size + 1 := by simp
  unfold PE Ends VS at HN
  unfold Ends at HM1
  simp only at HN HM1
  clear h hx hm hG
  have HLEN : Hid (∀ l r, pairP E (numP E) (numP E) r1 = .ok (l, r) → l.length ≤ 100000) := fun l r h => by
    exact pairP_len h
  generalize pairP E (numP E) (numP E) r1 = q at *
  go_enter Tryd.func73, Tryd.ntmps73
  go_wp2_with fail
  refine (HN.out _).mono ?_
  rintro e w1 ⟨v, rfl, rfl, hr, ho⟩
  have HR := hide hr
  have HO := hide (HOA.out.trans ho (fun _ _ h => h))
  have hs1 := ho.size
  have HRES1 := hide (HRES.out.only ho (by omega))
  clear hr ho
  go_wp2_with fail
  refine (HM1.out _ HR.out).mono ?_
  rintro e w2 ⟨rfl, hr2, ho2⟩
  have HR2 := hide hr2
  have HO2 := hide (HO.out.trans ho2 (fun _ _ h => h))
  have hs2 := ho2.size
  have HRES2 := hide (HRES1.out.only ho2 (by omega))
  clear hr2 ho2
  go_wp2_with fail
  refine (HC.out _ (HR2.out.below (below_new4 _))).mono ?_
  intro e w4 hz
  have hzB : (w2.alloc (.cells #[.int .i64 0, .slice none 0 0, .slice none 0 0, .string ⟨#[]⟩] 41)).heap.size = w2.heap.size + 1 := by simp
  cases q with
  | error f =>
    obtain ⟨rfl, ho4⟩ := hz
    have HO4 := hide ((HO2.out.trans (Only.alloc _ _ _) (fun _ _ h => h)).trans ho4 (fun _ _ h => h))
    clear ho4
    go_wp2
    exact ⟨rfl, rfl, HO4.out⟩
  | ok p =>
    obtain ⟨l, r4⟩ := p
    obtain ⟨v, rfl, ⟨uo, uc, rfl, hown⟩, hr4, ho4⟩ := hz
    have hll := HLEN.out l r4 rfl
    have HON := hide (vn_of_vl 6 hown hll)
    have HBOX : Hid (ResN w4 w2.heap.size) := heap_only (heap_alloc_new w2 _) ho4 (by omega)
    have HRES4 : Hid (ResN w4 w.heap.size) := heap_only (heap_keep' HRES2.out) ho4 (by omega)
    have hs4 := ho4.size
    have HR4 := hide hr4
    have HO4 := hide ((HO2.out.trans (Only.alloc _ _ _) (fun _ _ h => h)).trans ho4 (fun _ _ h => h))
    have hq : N ≤ w2.heap.size := by omega
    obtain ⟨⟨b0, b1, b2, b3⟩, g0, g1, g2, g3⟩ := HBOX.out.all
    clear hr4 ho4 hown
    go_wp2_with fail
    have HBX := hide (res4 HBOX.out (.int .i64 6) (.slice uo l.length uc) (.slice none 0 0) (.string ⟨#[]⟩))
    have HW4 := hide (only4 w4 w2.heap.size (.int .i64 6) (.slice uo l.length uc) (.slice none 0 0) (.string ⟨#[]⟩))
    have HRX : Hid (Rdr ((((w4.setCell ⟨w2.heap.size, 0, none⟩ (.int .i64 6)).setCell ⟨w2.heap.size, 1, none⟩ (.slice uo l.length uc)).setCell ⟨w2.heap.size, 2, none⟩ (.slice none 0 0)).setCell ⟨w2.heap.size, 3, none⟩ (.string ⟨#[]⟩)) R E d B N r4) := HR4.out.only (((((Below.refl N _).setCell hq _).setCell hq _).setCell hq _).setCell hq _)
    have HOX : Hid (Only (· = R) w ((((w4.setCell ⟨w2.heap.size, 0, none⟩ (.int .i64 6)).setCell ⟨w2.heap.size, 1, none⟩ (.slice uo l.length uc)).setCell ⟨w2.heap.size, 2, none⟩ (.slice none 0 0)).setCell ⟨w2.heap.size, 3, none⟩ (.string ⟨#[]⟩))) := only_set4 HO4.out (by omega) _ _ _ _
    have HRESX : Hid (ResN ((((w4.setCell ⟨w2.heap.size, 0, none⟩ (.int .i64 6)).setCell ⟨w2.heap.size, 1, none⟩ (.slice uo l.length uc)).setCell ⟨w2.heap.size, 2, none⟩ (.slice none 0 0)).setCell ⟨w2.heap.size, 3, none⟩ (.string ⟨#[]⟩)) w.heap.size) := by unfold ResN; rw [HW4.out.block w.heap.size (by omega) (by omega)]; exact hide HRES4.out
    have HMM := hide (HM.out _ r4 HRX.out)
    have hsX := HW4.out.size
    clear HM HBOX b0 b1 b2 b3 g0 g1 g2 g3
    generalize ((((w4.setCell ⟨w2.heap.size, 0, none⟩ (.int .i64 6)).setCell ⟨w2.heap.size, 1, none⟩ (.slice uo l.length uc)).setCell ⟨w2.heap.size, 2, none⟩ (.slice none 0 0)).setCell ⟨w2.heap.size, 3, none⟩ (.string ⟨#[]⟩)) = wX at *
    refine HMM.out.mono ?_
    intro e w7 hz
    obtain ⟨qm, hqm⟩ : ∃ q, mustP E ⟨#[41]⟩ r4 = q := ⟨_, rfl⟩
    rw [hqm] at hz
    cases qm with
    | error f =>
      obtain ⟨rfl, ho7⟩ := hz
      have HQ : Hid (thenP E ⟨#[41]⟩ (numsP 6 (.ok (l, r4))) = .error f) := by refine hide ?_; show (match mustP E ⟨#[41]⟩ r4 with | .error f => _ | .ok r' => _) = _; rw [hqm]
      have HO7 := hide (HOX.out.trans ho7 (fun _ _ h => h))
      clear ho7 hqm
      go_wp2
      refine ⟨rfl, ?_⟩
      rw [HQ.out]
      exact ⟨rfl, HO7.out⟩
    | ok r5 =>
      obtain ⟨rfl, hr7, ho7⟩ := hz
      have HQ : Hid (thenP E ⟨#[41]⟩ (numsP 6 (.ok (l, r4))) = .ok (.mk 6 l [] ⟨#[]⟩, r5)) := by refine hide ?_; show (match mustP E ⟨#[41]⟩ r4 with | .error f => _ | .ok r' => _) = _; rw [hqm]
      have hbox := heap_only HBX.out ho7 (by omega)
      have z0 : w7.cell? ⟨w2.heap.size, 0, none⟩ = some (.int .i64 6) := by rw [cell_of hbox]; rfl
      have z1 : w7.cell? ⟨w2.heap.size, 1, none⟩ = some (.slice uo l.length uc) := by rw [cell_of hbox]; rfl
      have z2 : w7.cell? ⟨w2.heap.size, 2, none⟩ = some (.slice none 0 0) := by rw [cell_of hbox]; rfl
      have z3 : w7.cell? ⟨w2.heap.size, 3, none⟩ = some (.string ⟨#[]⟩) := by rw [cell_of hbox]; rfl
      obtain ⟨⟨q0, q1, q2, q3⟩, f0, f1, f2, f3⟩ := (HRESX.out.only ho7 (by omega)).all
      have hs7 := ho7.size
      have HR7 := hide hr7
      have HO7 := hide (HOX.out.trans ho7 (fun _ _ h => h))
      have HW7 : Hid (Only (fun k => k = R ∨ k = w2.heap.size) w4 w7) := (HW4.out.mono (fun _ _ e => .inr e)).trans ho7 (fun _ _ e => .inl e)
      clear ho7 hr7 hbox hqm
      go_wp2
      refine bodyPost_ret (v := NVal.val ⟨6, uo, l.length, uc, none, 0, 0, ⟨#[]⟩⟩) (by simp [results, Tryd.results73, go_sem, q0, q1, q2, q3, NVal.val, ndV]) rfl ?_
      rw [HQ.out]
      have hW : Only (fun k => k = R ∨ k = w2.heap.size ∨ k = w.heap.size) w4 _ := (HW7.out.mono (fun _ _ e => e.elim .inl (fun e => .inr (.inl e)))).trans (only4 w7 w.heap.size (.int .i64 6) (.slice uo l.length uc) (.slice none 0 0) (.string ⟨#[]⟩)) (fun _ _ e => .inr (.inr e))
      refine ⟨_, rfl, ⟨_, rfl, HON.out.mono (fun b hb => ⟨by omega, Nat.lt_of_lt_of_le hb.2 hW.size⟩) (fun ad u hB hc => hW.cell hc (by omega))⟩, ?_, ?_⟩
      · exact HR7.out.only (((((Below.refl N _).setCell hN1 _).setCell hN1 _).setCell hN1 _).setCell hN1 _)
      · exact only_set4 HO7.out (Nat.le_refl _) _ _ _ _
set_option maxHeartbeats 8000000 in
set_option maxRecDepth 20000 in
theorem call_work {w : World} {R : Nat} {E d : Int} {B N : Nat} {ws r r1 : List Tk} (h : Rdr w R E d B N ws) (hG : Few9 r1) (hx : nameP E ws = .ok (⟨#[119, 111, 114, 107]⟩, r)) (hm : mustP E ⟨#[40]⟩ r = .ok r1) :
    Calls Tryd.prog 73 #[.pointer (some ⟨R, 0, none⟩)] w (PE R E d B N (thenP E ⟨#[41]⟩ (workP E r1)) VN w) := by
  obtain ⟨hN1, hN2⟩ := h.n
  have hmf : ∀ (fn : Fn) (first cap : Array Value) (w : World), (Instr.makeFunc fn first cap).run Tryd.prog w = .ok (.func fn first cap) w := fun _ _ _ _ => rfl
  have HN : Hid (∀ o, Calls Tryd.prog 45 #[.pointer (some ⟨R, 0, none⟩)] (w.alloc o) (PE R E d B N (nameP E ws) VS (w.alloc o))) := fun o => name_any (h.below (below_new4 o))
  rw [hx] at HN
  have HM1 : Hid (∀ (w : World), Rdr w R E d B N r → Calls Tryd.prog 43 #[.pointer (some ⟨R, 0, none⟩), .string ⟨#[40]⟩] w (Ends (mustP E ⟨#[40]⟩ r) (fun w' => Only (· = R) w w') fun r e w' => e = .returned (.tuple #[]) ∧ Rdr w' R E d B N r ∧ Only (· = R) w w')) := fun w h => must_any ⟨#[40]⟩ h (by decide)
  rw [hm] at HM1
  have HC : Hid (∀ (w : World), Rdr w R E d B N r1 → Calls Tryd.prog 85 #[.pointer (some ⟨R, 0, none⟩)] w (PE R E d B N (workP E r1) VN w)) := fun w h => work_any h hG
  have HM := hide (fun (w : World) (r : List Tk) (h : Rdr w R E d B N r) => must_any ⟨#[41]⟩ h (by decide))
  have HRES : Hid (ResN (w.alloc (.cells #[.int .i64 0, .slice none 0 0, .slice none 0 0, .string ⟨#[]⟩] 41)) w.heap.size) := heap_alloc_new w _
  have HOA : Hid (Only (· = R) w (w.alloc (.cells #[.int .i64 0, .slice none 0 0, .slice none 0 0, .string ⟨#[]⟩] 41))) := Only.alloc _ _ _
  have hzA : (w.alloc (.cells #[.int .i64 0, .slice none 0 0, .slice none 0 0, .string ⟨#[]⟩] 41)).heap.size = w.heap.size + 1 := by simp
  unfold PE Ends VS at HN
  unfold Ends at HM1
  simp only at HN HM1
  clear h hx hm hG
  generalize workP E r1 = q at *
  go_enter Tryd.func73, Tryd.ntmps73
  go_wp2_with fail
  refine (HN.out _).mono ?_
  rintro e w1 ⟨v, rfl, rfl, hr, ho⟩
  have HR := hide hr
  have HO := hide (HOA.out.trans ho (fun _ _ h => h))
  have hs1 := ho.size
  have HRES1 := hide (HRES.out.only ho (by omega))
  clear hr ho
  go_wp2_with fail
  refine (HM1.out _ HR.out).mono ?_
  rintro e w2 ⟨rfl, hr2, ho2⟩
  have HR2 := hide hr2
  have HO2 := hide (HO.out.trans ho2 (fun _ _ h => h))
  have hs2 := ho2.size
  have HRES2 := hide (HRES1.out.only ho2 (by omega))
  clear hr2 ho2
  go_wp2_with fail
  refine (HC.out _ (HR2.out.below (below_new4 _))).mono ?_
  intro e w4 hz
  have hzB : (w2.alloc (.cells #[.int .i64 0, .slice none 0 0, .slice none 0 0, .string ⟨#[]⟩] 41)).heap.size = w2.heap.size + 1 := by simp
  cases q with
  | error f =>
    obtain ⟨rfl, ho4⟩ := hz
    have HO4 := hide ((HO2.out.trans (Only.alloc _ _ _) (fun _ _ h => h)).trans ho4 (fun _ _ h => h))
    clear ho4
    go_wp2
    exact ⟨rfl, rfl, HO4.out⟩
  | ok p =>
    obtain ⟨a, r4⟩ := p
    obtain ⟨v, rfl, ⟨nv, rfl, hon⟩, hr4, ho4⟩ := hz
    have HON := hide hon
    clear hon
    have HBOX : Hid (ResN w4 w2.heap.size) := heap_only (heap_alloc_new w2 _) ho4 (by omega)
    have HRES4 : Hid (ResN w4 w.heap.size) := heap_only (heap_keep' HRES2.out) ho4 (by omega)
    have hs4 := ho4.size
    have HR4 := hide hr4
    have HO4 := hide ((HO2.out.trans (Only.alloc _ _ _) (fun _ _ h => h)).trans ho4 (fun _ _ h => h))
    have hq : N ≤ w2.heap.size := by omega
    obtain ⟨⟨b0, b1, b2, b3⟩, g0, g1, g2, g3⟩ := HBOX.out.all
    clear hr4 ho4 
    unfold NVal.val ndV
    go_wp2_with fail
    have HBX := hide (res4 HBOX.out (.int .i64 nv.op) (.slice nv.no nv.nl nv.nc) (.slice nv.ko nv.kl nv.kc) (.string nv.nm))
    have HW4 := hide (only4 w4 w2.heap.size (.int .i64 nv.op) (.slice nv.no nv.nl nv.nc) (.slice nv.ko nv.kl nv.kc) (.string nv.nm))
    have HRX : Hid (Rdr ((((w4.setCell ⟨w2.heap.size, 0, none⟩ (.int .i64 nv.op)).setCell ⟨w2.heap.size, 1, none⟩ (.slice nv.no nv.nl nv.nc)).setCell ⟨w2.heap.size, 2, none⟩ (.slice nv.ko nv.kl nv.kc)).setCell ⟨w2.heap.size, 3, none⟩ (.string nv.nm)) R E d B N r4) := HR4.out.only (((((Below.refl N _).setCell hq _).setCell hq _).setCell hq _).setCell hq _)
    have HOX : Hid (Only (· = R) w ((((w4.setCell ⟨w2.heap.size, 0, none⟩ (.int .i64 nv.op)).setCell ⟨w2.heap.size, 1, none⟩ (.slice nv.no nv.nl nv.nc)).setCell ⟨w2.heap.size, 2, none⟩ (.slice nv.ko nv.kl nv.kc)).setCell ⟨w2.heap.size, 3, none⟩ (.string nv.nm))) := only_set4 HO4.out (by omega) _ _ _ _
    have HRESX : Hid (ResN ((((w4.setCell ⟨w2.heap.size, 0, none⟩ (.int .i64 nv.op)).setCell ⟨w2.heap.size, 1, none⟩ (.slice nv.no nv.nl nv.nc)).setCell ⟨w2.heap.size, 2, none⟩ (.slice nv.ko nv.kl nv.kc)).setCell ⟨w2.heap.size, 3, none⟩ (.string nv.nm)) w.heap.size) := by unfold ResN; rw [HW4.out.block w.heap.size (by omega) (by omega)]; exact hide HRES4.out
    have HMM := hide (HM.out _ r4 HRX.out)
    have hsX := HW4.out.size
    clear HM HBOX b0 b1 b2 b3 g0 g1 g2 g3
    generalize ((((w4.setCell ⟨w2.heap.size, 0, none⟩ (.int .i64 nv.op)).setCell ⟨w2.heap.size, 1, none⟩ (.slice nv.no nv.nl nv.nc)).setCell ⟨w2.heap.size, 2, none⟩ (.slice nv.ko nv.kl nv.kc)).setCell ⟨w2.heap.size, 3, none⟩ (.string nv.nm)) = wX at *
    refine HMM.out.mono ?_
    intro e w7 hz
    obtain ⟨qm, hqm⟩ : ∃ q, mustP E ⟨#[41]⟩ r4 = q := ⟨_, rfl⟩
    rw [hqm] at hz
    cases qm with
    | error f =>
      obtain ⟨rfl, ho7⟩ := hz
      have HQ : Hid (thenP E ⟨#[41]⟩ (.ok (a, r4)) = .error f) := by refine hide ?_; show (match mustP E ⟨#[41]⟩ r4 with | .error f => _ | .ok r' => _) = _; rw [hqm]
      have HO7 := hide (HOX.out.trans ho7 (fun _ _ h => h))
      clear ho7 hqm
      go_wp2
      refine ⟨rfl, ?_⟩
      rw [HQ.out]
      exact ⟨rfl, HO7.out⟩
    | ok r5 =>
      obtain ⟨rfl, hr7, ho7⟩ := hz
      have HQ : Hid (thenP E ⟨#[41]⟩ (.ok (a, r4)) = .ok (a, r5)) := by refine hide ?_; show (match mustP E ⟨#[41]⟩ r4 with | .error f => _ | .ok r' => _) = _; rw [hqm]
      have hbox := heap_only HBX.out ho7 (by omega)
      have z0 : w7.cell? ⟨w2.heap.size, 0, none⟩ = some (.int .i64 nv.op) := by rw [cell_of hbox]; rfl
      have z1 : w7.cell? ⟨w2.heap.size, 1, none⟩ = some (.slice nv.no nv.nl nv.nc) := by rw [cell_of hbox]; rfl
      have z2 : w7.cell? ⟨w2.heap.size, 2, none⟩ = some (.slice nv.ko nv.kl nv.kc) := by rw [cell_of hbox]; rfl
      have z3 : w7.cell? ⟨w2.heap.size, 3, none⟩ = some (.string nv.nm) := by rw [cell_of hbox]; rfl
      obtain ⟨⟨q0, q1, q2, q3⟩, f0, f1, f2, f3⟩ := (HRESX.out.only ho7 (by omega)).all
      have hs7 := ho7.size
      have HR7 := hide hr7
      have HO7 := hide (HOX.out.trans ho7 (fun _ _ h => h))
      have HW7 : Hid (Only (fun k => k = R ∨ k = w2.heap.size) w4 w7) := (HW4.out.mono (fun _ _ e => .inr e)).trans ho7 (fun _ _ e => .inl e)
      clear ho7 hr7 hbox hqm
      go_wp2
      refine bodyPost_ret (v := nv.val) (by simp [results, Tryd.results73, go_sem, q0, q1, q2, q3, NVal.val, ndV]) rfl ?_
      rw [HQ.out]
      have hW : Only (fun k => k = R ∨ k = w2.heap.size ∨ k = w.heap.size) w4 _ := (HW7.out.mono (fun _ _ e => e.elim .inl (fun e => .inr (.inl e)))).trans (only4 w7 w.heap.size (.int .i64 nv.op) (.slice nv.no nv.nl nv.nc) (.slice nv.ko nv.kl nv.kc) (.string nv.nm)) (fun _ _ e => .inr (.inr e))
      refine ⟨_, rfl, ⟨_, rfl, HON.out.mono (fun b hb => ⟨by omega, Nat.lt_of_lt_of_le hb.2 hW.size⟩) (fun ad u hB hc => hW.cell hc (by omega))⟩, ?_, ?_⟩
      · exact HR7.out.only (((((Below.refl N _).setCell hN1 _).setCell hN1 _).setCell hN1 _).setCell hN1 _)
      · exact only_set4 HO7.out (Nat.le_refl _) _ _ _ _
set_option maxHeartbeats 8000000 in
set_option maxRecDepth 20000 in
theorem call_week {w : World} {R : Nat} {E d : Int} {B N : Nat} {ws r r1 : List Tk} (h : Rdr w R E d B N ws) (hG : Few9 r1) (hx : nameP E ws = .ok (⟨#[119, 101, 101, 107]⟩, r)) (hm : mustP E ⟨#[40]⟩ r = .ok r1) :
    Calls Tryd.prog 73 #[.pointer (some ⟨R, 0, none⟩)] w (PE R E d B N (thenP E ⟨#[41]⟩ (weekP E r1)) VN w) := by
  obtain ⟨hN1, hN2⟩ := h.n
  have hmf : ∀ (fn : Fn) (first cap : Array Value) (w : World), (Instr.makeFunc fn first cap).run Tryd.prog w = .ok (.func fn first cap) w := fun _ _ _ _ => rfl
  have HN : Hid (∀ o, Calls Tryd.prog 45 #[.pointer (some ⟨R, 0, none⟩)] (w.alloc o) (PE R E d B N (nameP E ws) VS (w.alloc o))) := fun o => name_any (h.below (below_new4 o))
  rw [hx] at HN
  have HM1 : Hid (∀ (w : World), Rdr w R E d B N r → Calls Tryd.prog 43 #[.pointer (some ⟨R, 0, none⟩), .string ⟨#[40]⟩] w (Ends (mustP E ⟨#[40]⟩ r) (fun w' => Only (· = R) w w') fun r e w' => e = .returned (.tuple #[]) ∧ Rdr w' R E d B N r ∧ Only (· = R) w w')) := fun w h => must_any ⟨#[40]⟩ h (by decide)
  rw [hm] at HM1
  have HC : Hid (∀ (w : World), Rdr w R E d B N r1 → Calls Tryd.prog 80 #[.pointer (some ⟨R, 0, none⟩), .string ⟨#[44]⟩, .int .i64 8192, .func (.func 81) #[.pointer (some ⟨R, 0, none⟩)] #[]] w (PE R E d B N (listP E ⟨#[44]⟩ (choiceP E weekL) 8192 r1) VL w)) := fun w h => listI h 81 #[.pointer (some ⟨R, 0, none⟩)] #[] (choiceP E weekL) ⟨#[44]⟩ (by decide) 8192 (by decide) (fun _ => True) trivial (fun _ _ _ _ _ => ⟨trivial, trivial⟩) (cf_of Tryd.func81 (by decide +kernel) (by kernel_rfl)) (fun w ws _ h => weekday_any h)
  have HM := hide (fun (w : World) (r : List Tk) (h : Rdr w R E d B N r) => must_any ⟨#[41]⟩ h (by decide))
  have HRES : Hid (ResN (w.alloc (.cells #[.int .i64 0, .slice none 0 0, .slice none 0 0, .string ⟨#[]⟩] 41)) w.heap.size) := heap_alloc_new w _
  have HOA : Hid (Only (· = R) w (w.alloc (.cells #[.int .i64 0, .slice none 0 0, .slice none 0 0, .string ⟨#[]⟩] 41))) := Only.alloc _ _ _
  have hzA : (w.alloc (.cells #[.int .i64 0, .slice none 0 0, .slice none 0 0, .string ⟨#[]⟩] 41)).heap.size = w.heap.size + 1 := by simp
  unfold PE Ends VS at HN
  unfold Ends at HM1
  simp only at HN HM1
  clear h hx hm hG
  have HWK : Hid (∀ l r, listP E ⟨#[44]⟩ (choiceP E weekL) 8192 r1 = .ok (l, r) → l.length ≤ 8192 ∧ ∀ a ∈ l, 0 ≤ a ∧ a ≤ 6) := fun l r h =>
    ⟨listP_len _ _ _ _ _ _ _ h, listP_all (Q := fun a => 0 ≤ a ∧ a ≤ 6) (fun ws a r h => by have := (choiceP_suf h).2; have e : weekL.length = 7 := rfl; omega) _ _ _ _ h⟩
  unfold weekP
  generalize listP E ⟨#[44]⟩ (choiceP E weekL) 8192 r1 = q at *
  go_enter Tryd.func73, Tryd.ntmps73
  go_wp2_with fail
  refine (HN.out _).mono ?_
  rintro e w1 ⟨v, rfl, rfl, hr, ho⟩
  have HR := hide hr
  have HO := hide (HOA.out.trans ho (fun _ _ h => h))
  have hs1 := ho.size
  have HRES1 := hide (HRES.out.only ho (by omega))
  clear hr ho
  go_wp2_with fail
  refine (HM1.out _ HR.out).mono ?_
  rintro e w2 ⟨rfl, hr2, ho2⟩
  have HR2 := hide hr2
  have HO2 := hide (HO.out.trans ho2 (fun _ _ h => h))
  have hs2 := ho2.size
  have HRES2 := hide (HRES1.out.only ho2 (by omega))
  clear hr2 ho2
  go_wp2_with fail
  refine (HC.out _ (HR2.out.below (below_new4 _))).mono ?_
  intro e w4a hz
  have hzB : (w2.alloc (.cells #[.int .i64 0, .slice none 0 0, .slice none 0 0, .string ⟨#[]⟩] 41)).heap.size = w2.heap.size + 1 := by simp
  cases q with
  | error f =>
    obtain ⟨rfl, ho4⟩ := hz
    have HO4 := hide ((HO2.out.trans (Only.alloc _ _ _) (fun _ _ h => h)).trans ho4 (fun _ _ h => h))
    clear ho4
    go_wp2
    exact ⟨rfl, rfl, HO4.out⟩
  | ok p =>
    obtain ⟨l, r4⟩ := p
    obtain ⟨v, rfl, hv, hr4a, ho4a⟩ := hz
    obtain ⟨hl1, hl2⟩ := HWK.out l r4 rfl
    have HWN := hide (weekNode_any hv hl1 hl2)
    have HR4A := hide hr4a
    have HO4A := hide ho4a
    have hs4a := ho4a.size
    clear hv hr4a ho4a
    go_wp2_with fail
    refine HWN.out.mono ?_
    rintro e w4 ⟨v', rfl, ⟨nv, rfl, hon⟩, hb5⟩
    have HON := hide hon
    have ho4 := HO4A.out.trans (Only.below hb5) (fun _ _ h => h)
    have hr4 := HR4A.out.below hb5
    clear hon hb5
    have HBOX : Hid (ResN w4 w2.heap.size) := heap_only (heap_alloc_new w2 _) ho4 (by omega)
    have HRES4 : Hid (ResN w4 w.heap.size) := heap_only (heap_keep' HRES2.out) ho4 (by omega)
    have hs4 := ho4.size
    have HR4 := hide hr4
    have HO4 := hide ((HO2.out.trans (Only.alloc _ _ _) (fun _ _ h => h)).trans ho4 (fun _ _ h => h))
    have hq : N ≤ w2.heap.size := by omega
    obtain ⟨⟨b0, b1, b2, b3⟩, g0, g1, g2, g3⟩ := HBOX.out.all
    clear hr4 ho4 HWN
    unfold NVal.val ndV
    go_wp2_with fail
    have HBX := hide (res4 HBOX.out (.int .i64 nv.op) (.slice nv.no nv.nl nv.nc) (.slice nv.ko nv.kl nv.kc) (.string nv.nm))
    have HW4 := hide (only4 w4 w2.heap.size (.int .i64 nv.op) (.slice nv.no nv.nl nv.nc) (.slice nv.ko nv.kl nv.kc) (.string nv.nm))
    have HRX : Hid (Rdr ((((w4.setCell ⟨w2.heap.size, 0, none⟩ (.int .i64 nv.op)).setCell ⟨w2.heap.size, 1, none⟩ (.slice nv.no nv.nl nv.nc)).setCell ⟨w2.heap.size, 2, none⟩ (.slice nv.ko nv.kl nv.kc)).setCell ⟨w2.heap.size, 3, none⟩ (.string nv.nm)) R E d B N r4) := HR4.out.only (((((Below.refl N _).setCell hq _).setCell hq _).setCell hq _).setCell hq _)
    have HOX : Hid (Only (· = R) w ((((w4.setCell ⟨w2.heap.size, 0, none⟩ (.int .i64 nv.op)).setCell ⟨w2.heap.size, 1, none⟩ (.slice nv.no nv.nl nv.nc)).setCell ⟨w2.heap.size, 2, none⟩ (.slice nv.ko nv.kl nv.kc)).setCell ⟨w2.heap.size, 3, none⟩ (.string nv.nm))) := only_set4 HO4.out (by omega) _ _ _ _
    have HRESX : Hid (ResN ((((w4.setCell ⟨w2.heap.size, 0, none⟩ (.int .i64 nv.op)).setCell ⟨w2.heap.size, 1, none⟩ (.slice nv.no nv.nl nv.nc)).setCell ⟨w2.heap.size, 2, none⟩ (.slice nv.ko nv.kl nv.kc)).setCell ⟨w2.heap.size, 3, none⟩ (.string nv.nm)) w.heap.size) := by unfold ResN; rw [HW4.out.block w.heap.size (by omega) (by omega)]; exact hide HRES4.out
    have HMM := hide (HM.out _ r4 HRX.out)
    have hsX := HW4.out.size
    clear HM HBOX b0 b1 b2 b3 g0 g1 g2 g3
    generalize ((((w4.setCell ⟨w2.heap.size, 0, none⟩ (.int .i64 nv.op)).setCell ⟨w2.heap.size, 1, none⟩ (.slice nv.no nv.nl nv.nc)).setCell ⟨w2.heap.size, 2, none⟩ (.slice nv.ko nv.kl nv.kc)).setCell ⟨w2.heap.size, 3, none⟩ (.string nv.nm)) = wX at *
    refine HMM.out.mono ?_
    intro e w7 hz
    obtain ⟨qm, hqm⟩ : ∃ q, mustP E ⟨#[41]⟩ r4 = q := ⟨_, rfl⟩
    rw [hqm] at hz
    cases qm with
    | error f =>
      obtain ⟨rfl, ho7⟩ := hz
      have HQ : Hid (thenP E ⟨#[41]⟩ (.ok (Nd.mk 1 [(bitN l : Int)] [] ⟨#[]⟩, r4)) = .error f) := by refine hide ?_; show (match mustP E ⟨#[41]⟩ r4 with | .error f => _ | .ok r' => _) = _; rw [hqm]
      have HO7 := hide (HOX.out.trans ho7 (fun _ _ h => h))
      clear ho7 hqm
      go_wp2
      refine ⟨rfl, ?_⟩
      rw [HQ.out]
      exact ⟨rfl, HO7.out⟩
    | ok r5 =>
      obtain ⟨rfl, hr7, ho7⟩ := hz
      have HQ : Hid (thenP E ⟨#[41]⟩ (.ok (Nd.mk 1 [(bitN l : Int)] [] ⟨#[]⟩, r4)) = .ok (.mk 1 [(bitN l : Int)] [] ⟨#[]⟩, r5)) := by refine hide ?_; show (match mustP E ⟨#[41]⟩ r4 with | .error f => _ | .ok r' => _) = _; rw [hqm]
      have hbox := heap_only HBX.out ho7 (by omega)
      have z0 : w7.cell? ⟨w2.heap.size, 0, none⟩ = some (.int .i64 nv.op) := by rw [cell_of hbox]; rfl
      have z1 : w7.cell? ⟨w2.heap.size, 1, none⟩ = some (.slice nv.no nv.nl nv.nc) := by rw [cell_of hbox]; rfl
      have z2 : w7.cell? ⟨w2.heap.size, 2, none⟩ = some (.slice nv.ko nv.kl nv.kc) := by rw [cell_of hbox]; rfl
      have z3 : w7.cell? ⟨w2.heap.size, 3, none⟩ = some (.string nv.nm) := by rw [cell_of hbox]; rfl
      obtain ⟨⟨q0, q1, q2, q3⟩, f0, f1, f2, f3⟩ := (HRESX.out.only ho7 (by omega)).all
      have hs7 := ho7.size
      have HR7 := hide hr7
      have HO7 := hide (HOX.out.trans ho7 (fun _ _ h => h))
      have HW7 : Hid (Only (fun k => k = R ∨ k = w2.heap.size) w4 w7) := (HW4.out.mono (fun _ _ e => .inr e)).trans ho7 (fun _ _ e => .inl e)
      clear ho7 hr7 hbox hqm
      go_wp2
      refine bodyPost_ret (v := nv.val) (by simp [results, Tryd.results73, go_sem, q0, q1, q2, q3, NVal.val, ndV]) rfl ?_
      rw [HQ.out]
      have hW : Only (fun k => k = R ∨ k = w2.heap.size ∨ k = w.heap.size) w4 _ := (HW7.out.mono (fun _ _ e => e.elim .inl (fun e => .inr (.inl e)))).trans (only4 w7 w.heap.size (.int .i64 nv.op) (.slice nv.no nv.nl nv.nc) (.slice nv.ko nv.kl nv.kc) (.string nv.nm)) (fun _ _ e => .inr (.inr e))
      refine ⟨_, rfl, ⟨_, rfl, HON.out.mono (fun b hb => ⟨by omega, Nat.lt_of_lt_of_le hb.2 hW.size⟩) (fun ad u hB hc => hW.cell hc (by omega))⟩, ?_, ?_⟩
      · exact HR7.out.only (((((Below.refl N _).setCell hN1 _).setCell hN1 _).setCell hN1 _).setCell hN1 _)
      · exact only_set4 HO7.out (Nat.le_refl _) _ _ _ _
end Go.Proofs.YtkpgfhapffijkaaDoor
