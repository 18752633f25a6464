/- Some parts of the proof, one behind the other. -/
import Derived.Test.YtkpgfhapffijkaaDoorJ11
/- Package jdl: a condition's name and its day. -/
namespace Go.DsJd
open Go.DsLx Go.DsMk
def whenL : List ByteArray := [⟨#[111, 100, 97, 116]⟩, ⟨#[112, 114, 101, 118]⟩, ⟨#[97, 110, 121]⟩]
def refWP (E : Int) (ws : List Tk) : Except Fl ((ByteArray × Int) × List Tk) :=
  match nameP E ws with
  | .error f => .error f
  | .ok (n, r) => if textF r = ⟨#[46]⟩ then (match choiceP E whenL r.tail with | .error f => .error f | .ok (i, r2) => .ok ((n, i), r2)) else .ok ((n, 0), r)
end Go.DsJd
namespace Go.Proofs.YtkpgfhapffijkaaDoor
open Go.ChangeShapes Go.WideShapes Go.ChangeAt Go.RowKit Go.DsMem Go.DsLx Go.DsJd Go.DsMk
set_option linter.unusedVariables false
def VR (w : World) (p : ByteArray × Int) (v : Value) (w' : World) : Prop := v = .tuple #[.string p.1, .int .i64 p.2]
set_option maxHeartbeats 1000000 in
/-- jdl.whenWords -/
theorem whenWords (w : World) : Calls Tryd.prog 74 #[] w fun e w' => e = .returned (.slice (some ⟨w.heap.size, 0, none⟩) 3 3) ∧ w' = w.alloc (.cells (strs whenL) 9) := by
  go_enter Tryd.func74, Tryd.ntmps74
  go_wp2
  go_ret
  exact ⟨rfl, rfl⟩
set_option maxHeartbeats 4000000 in
set_option maxRecDepth 20000 in
/-- (*jdl.reader).ref -/
theorem ref_any {w : World} {R : Nat} {E d : Int} {B N : Nat} {ws : List Tk} (h : Rdr w R E d B N ws) : Calls Tryd.prog 62 #[.pointer (some ⟨R, 0, none⟩)] w (PE R E d B N (refWP E ws) VR w) := by
  have HN := hide (name_any h)
  clear h
  unfold refWP
  generalize nameP E ws = q at *
  cases q with
  | error f =>
    unfold PE Ends at HN
    unfold PE Ends
    simp only at HN ⊢
    go_enter Tryd.func62, Tryd.ntmps62
    go_wp2_with fail
    refine HN.out.mono ?_
    rintro e w1 ⟨rfl, ho⟩
    have HO := hide ho
    clear ho
    go_wp2
    exact ⟨rfl, rfl, HO.out⟩
  | ok p =>
    obtain ⟨n, r⟩ := p
    unfold PE Ends VS at HN
    simp only at HN ⊢
    by_cases hs : textF r = ⟨#[46]⟩
    · rw [if_pos hs]
      cases r with
      | nil => exact absurd hs (by decide)
      | cons t r' =>
        simp only [textF] at hs
        simp only [List.tail_cons]
        have HTK := hide (fun (w : World) (h : Rdr w R E d B N (t :: r')) => take_yes h)
        rw [hs] at HTK
        have HC : Hid (∀ w : World, Rdr w R E d B N r' → Calls Tryd.prog 61 #[.pointer (some ⟨R, 0, none⟩), .slice (some ⟨w.heap.size, 0, none⟩) 3 3] (w.alloc (.cells (strs whenL) 9)) (PE R E d B N (choiceP E whenL r') VI (w.alloc (.cells (strs whenL) 9)))) := fun w h =>
          choice_any (h.below (below_new4 _)) whenL w.heap.size 3 (by decide) (by decide) (by decide) (fun j x hx => strs_cells w whenL _ j x hx)
        generalize choiceP E whenL r' = q2 at *
        go_enter Tryd.func62, Tryd.ntmps62
        go_wp2_with fail
        refine HN.out.mono ?_
        rintro e w1 ⟨v, rfl, rfl, hr, ho⟩
        have HO := hide ho
        have HR := hide hr
        clear ho hr
        go_wp2_with fail
        refine (HTK.out _ HR.out).mono ?_
        rintro e w2 ⟨rfl, hr2, ho2⟩
        have HO2 := hide (HO.out.trans ho2 (fun _ _ h => h))
        have HR2 := hide hr2
        clear ho2 hr2
        go_wp2_with fail
        refine (whenWords w2).mono ?_
        rintro e w3 ⟨rfl, rfl⟩
        go_wp2_with fail
        refine (HC.out w2 HR2.out).mono ?_
        intro e w4 hz
        cases q2 with
        | error f =>
          obtain ⟨rfl, ho4⟩ := hz
          have HO4 := hide ((HO2.out.trans (Only.alloc _ _ _) (fun _ _ h => h)).trans ho4 (fun _ _ h => h))
          clear ho4
          go_wp2
          exact ⟨rfl, rfl, HO4.out⟩
        | ok p =>
          obtain ⟨i, r4⟩ := p
          obtain ⟨v, rfl, hv, hr4, ho4⟩ := hz
          unfold VI at hv
          subst hv
          have HO4 := hide ((HO2.out.trans (Only.alloc _ _ _) (fun _ _ h => h)).trans ho4 (fun _ _ h => h))
          have HR4 := hide hr4
          clear ho4 hr4
          go_wp2
          go_ret2
          exact ⟨_, rfl, rfl, HR4.out, HO4.out⟩
    · rw [if_neg hs]
      have HTK := hide (fun (w : World) (h : Rdr w R E d B N r) => take_no h hs)
      go_enter Tryd.func62, Tryd.ntmps62
      go_wp2_with fail
      refine HN.out.mono ?_
      rintro e w1 ⟨v, rfl, rfl, hr, ho⟩
      have HO := hide ho
      have HR := hide hr
      clear ho hr
      go_wp2_with fail
      refine (HTK.out _ HR.out).mono ?_
      rintro e w2 ⟨rfl, rfl⟩
      go_wp2
      go_ret2
      exact ⟨_, rfl, rfl, HR.out, HO.out⟩
end Go.Proofs.YtkpgfhapffijkaaDoor

/- Package jdl: one of the conditions. Written by genl.py. -/
namespace Go.DsJd
open Go.DsLx Go.DsMk
def condP (E : Int) (one : List Tk → Except Fl (Ex × List Tk)) (ws : List Tk) : Except Fl (Ex × List Tk) := manyE E sOr 3 (manyE E sAnd 2 one) ws
def notE (x : Except Fl (Ex × List Tk)) : Except Fl (Ex × List Tk) := match x with | .error f => .error f | .ok (a, r) => .ok (.mk 4 ⟨#[]⟩ 0 [a], r)
def hasE (x : Except Fl ((ByteArray × Int) × List Tk)) : Except Fl (Ex × List Tk) := match x with | .error f => .error f | .ok (n, r) => .ok (.mk 1 n.1 n.2 [], r)
def eachStep (E d : Int) (one : List Tk → Except Fl (Ex × List Tk)) (ws : List Tk) : Except Fl (Ex × List Tk) :=
  if textF ws = sNot then notE (deepP E d one ws)
  else if textF ws = sLp then thenP E sRp (deepP E d (condP E one) ws)
  else if textF ws = sAnd ∨ textF ws = sOr then .error (atF E ws, 20)
  else hasE (refWP E ws)
end Go.DsJd
namespace Go.Proofs.YtkpgfhapffijkaaDoor
open Go.ChangeShapes Go.WideShapes Go.ChangeAt Go.RowKit Go.DsMem Go.DsLx Go.DsJd Go.DsMk
set_option linter.unusedVariables false
theorem ve_not {w w2 W : World} {s0 p : Nat} {nv : EVal} {a : Ex} (hon : ExOn (fun b => s0 ≤ b ∧ b < w2.heap.size) w2 nv a) (hs0 : w.heap.size ≤ s0) (hp : p < s0) (hs2 : s0 ≤ w2.heap.size)
    (hW : Only (· = p) (w2.alloc (.cells #[.int .i64 nv.op, .string nv.nm, .int .i64 nv.wh, .slice nv.ko nv.kl nv.kc] 44)) W) : VE w (.mk 4 ⟨#[]⟩ 0 [a]) (EVal.val ⟨4, ⟨#[]⟩, 0, some ⟨w2.heap.size, 0, none⟩, 1, 1⟩) W := by
  have hz : (w2.alloc (.cells #[.int .i64 nv.op, .string nv.nm, .int .i64 nv.wh, .slice nv.ko nv.kl nv.kc] 44)).heap.size = w2.heap.size + 1 := by simp
  have hsz := hW.size
  have hnew : W.heap[w2.heap.size]? = some (.cells #[.int .i64 nv.op, .string nv.nm, .int .i64 nv.wh, .slice nv.ko nv.kl nv.kc] 44 (0, 0)) := by
    rw [hW.block w2.heap.size (by omega) (by omega)]; exact heap_alloc_new w2 _
  refine ⟨_, rfl, .mk 4 ⟨#[]⟩ 0 [a] (some ⟨w2.heap.size, 0, none⟩) 1 w2.heap.size (fun _ => nv) (by simp) (by simp) (fun _ => rfl) (fun _ => ⟨by omega, by omega⟩) (fun j hj => ?_) (fun j hj => ?_)⟩
  · obtain rfl : j = 0 := by simp at hj; omega
    exact ⟨by rw [cell_of hnew]; rfl, by rw [cell_of hnew]; rfl, by rw [cell_of hnew]; rfl, by rw [cell_of hnew]; rfl⟩
  · obtain rfl : j = 0 := by simp at hj; omega
    exact hon.mono (fun b hb => ⟨by omega, by omega⟩) (fun ad u hB hc => hW.cell (Below.keeps (below_new4 _) (Nat.le_refl _) hc) (by omega))
theorem ve_set {w w2 W : World} {s0 p : Nat} {nv : EVal} {a : Ex} (hon : ExOn (fun b => s0 ≤ b ∧ b < w2.heap.size) w2 nv a) (hs0 : w.heap.size ≤ s0) (hp : p < s0) (hW : Only (· = p) w2 W) : VE w a nv.val W :=
  ⟨nv, rfl, hon.mono (fun b hb => ⟨by omega, Nat.lt_of_lt_of_le hb.2 hW.size⟩) (fun ad u hB hc => hW.cell hc (by omega))⟩
theorem ve_has {w W : World} (n : ByteArray) (i : Int) : VE w (.mk 1 n i []) (EVal.val ⟨1, n, i, none, 0, 0⟩) W :=
  ⟨_, rfl, .mk 1 n i [] none 0 0 (fun _ => ⟨0, ⟨#[]⟩, 0, none, 0, 0⟩) (by simp) (by simp) (fun h => by simp at h) (fun h => by simp at h) (fun j hj => by simp at hj) (fun j hj => by simp at hj)⟩
set_option maxHeartbeats 8000000 in
set_option maxRecDepth 20000 in
/-- (*jdl.reader).eachCond -/
theorem eachCond_any {w : World} {R : Nat} {E d : Int} {B N : Nat} {ws : List Tk} (h : Rdr w R E d B N ws) (hd0 : 0 ≤ d) (hd1 : d ≤ 16) (one : List Tk → Except Fl (Ex × List Tk)) (P : List Tk → Prop) (hP0 : P ws) (hPt : ∀ ws, P ws → P ws.tail) (hPn : ∀ ws a r, P ws → one ws = .ok (a, r) → P r ∧ P r.tail) (hPm : ∀ ws a r, P ws → manyE E sAnd 2 one ws = .ok (a, r) → P r ∧ P r.tail)
    (hp : d < 16 → ∀ w ws, P ws → Rdr w R E (d + 1) B N ws → Calls Tryd.prog 86 #[.pointer (some ⟨R, 0, none⟩)] w (PE R E (d + 1) B N (one ws) VE w)) :
    Calls Tryd.prog 86 #[.pointer (some ⟨R, 0, none⟩)] w (PE R E d B N (eachStep E d one ws) VE w) := by
  obtain ⟨hN1, hN2⟩ := h.n
  have hmf : ∀ (fn : Fn) (first cap : Array Value) (w : World), (Instr.makeFunc fn first cap).run Tryd.prog w = .ok (.func fn first cap) w := fun _ _ _ _ => rfl
  have HRES : Hid (ResE (w.alloc (.cells #[.int .i64 0, .string ⟨#[]⟩, .int .i64 0, .slice none 0 0] 44)) w.heap.size) := heap_alloc_new w _
  have HOA : Hid (Only (· = R) w (w.alloc (.cells #[.int .i64 0, .string ⟨#[]⟩, .int .i64 0, .slice none 0 0] 44))) := Only.alloc _ _ _
  have hzA : (w.alloc (.cells #[.int .i64 0, .string ⟨#[]⟩, .int .i64 0, .slice none 0 0] 44)).heap.size = w.heap.size + 1 := by simp
  have HT : Hid (∀ o, Calls Tryd.prog 27 #[.pointer (some ⟨R, 0, none⟩)] (w.alloc o) fun e w' => e = .returned (.string (textF ws)) ∧ w' = w.alloc o) := fun o => text_any (h.below (below_new4 o))
  by_cases c1 : textF ws = sNot
  · have e : eachStep E d one ws = notE (deepP E d one ws) := by unfold eachStep; rw [if_pos c1]
    rw [e]
    cases ws with
    | nil => exact absurd c1 (by decide)
    | cons t r =>
      have HD : Hid (∀ o, Calls Tryd.prog 89 #[.pointer (some ⟨R, 0, none⟩), .func (.func 86) #[.pointer (some ⟨R, 0, none⟩)] #[]] (w.alloc o) (PE R E d B N (deepP E d one (t :: r)) VE (w.alloc o))) := fun o =>
        deeperE (h.below (below_new4 o)) hd0 hd1 86 #[.pointer (some ⟨R, 0, none⟩)] #[] one (cf_of Tryd.func86 (by decide +kernel) (by kernel_rfl)) (fun hd w h => hp hd w r (hPt _ hP0) h)
      rw [c1] at HT
      unfold sNot at HT
      clear h hp hPn hPm hP0 hPt e c1
      generalize deepP E d one (t :: r) = q at *
      cases q with
      | error f =>
        unfold PE Ends at HD
        unfold notE PE Ends
        simp only at HD ⊢
        go_enter Tryd.func86, Tryd.ntmps86
        go_wp2_with fail
        refine (HT.out _).mono ?_
        rintro e w1 ⟨rfl, rfl⟩
        go_wp2_with fail
        refine (HD.out _).mono ?_
        rintro e w2 ⟨rfl, ho2⟩
        have HO2 := hide (HOA.out.trans ho2 (fun _ _ h => h))
        clear ho2
        go_wp2
        exact ⟨rfl, rfl, HO2.out⟩
      | ok p =>
        obtain ⟨a, r'⟩ := p
        unfold PE Ends at HD
        unfold notE PE Ends
        simp only at HD ⊢
        go_enter Tryd.func86, Tryd.ntmps86
        go_wp2_with fail
        refine (HT.out _).mono ?_
        rintro e w1 ⟨rfl, rfl⟩
        go_wp2_with fail
        refine (HD.out _).mono ?_
        rintro e w2 ⟨v, rfl, ⟨nv, rfl, hon⟩, hr2, ho2⟩
        have hsz2 := ho2.size
        have HON := hide hon
        have HR2 := hide hr2
        have HO2 := hide (HOA.out.trans ho2 (fun _ _ h => h))
        have HRN : Hid (ResE w2 w.heap.size) := HRES.out.only ho2 (by omega)
        have q0 : ∀ ob, (w2.alloc ob).cell? ⟨w.heap.size, 0, none⟩ = some (.int .i64 0) := fun ob => (past HRN.out ob 0).1
        have f0 : ∀ ob, (w2.alloc ob).frozen? ⟨w.heap.size, 0, none⟩ = false := fun ob => (past HRN.out ob 0).2
        have q1 : ∀ ob, (w2.alloc ob).cell? ⟨w.heap.size, 1, none⟩ = some (.string ⟨#[]⟩) := fun ob => (past HRN.out ob 1).1
        have f1 : ∀ ob, (w2.alloc ob).frozen? ⟨w.heap.size, 1, none⟩ = false := fun ob => (past HRN.out ob 1).2
        have q2 : ∀ ob, (w2.alloc ob).cell? ⟨w.heap.size, 2, none⟩ = some (.int .i64 0) := fun ob => (past HRN.out ob 2).1
        have f2 : ∀ ob, (w2.alloc ob).frozen? ⟨w.heap.size, 2, none⟩ = false := fun ob => (past HRN.out ob 2).2
        have q3 : ∀ ob, (w2.alloc ob).cell? ⟨w.heap.size, 3, none⟩ = some (.slice none 0 0) := fun ob => (past HRN.out ob 3).1
        have f3 : ∀ ob, (w2.alloc ob).frozen? ⟨w.heap.size, 3, none⟩ = false := fun ob => (past HRN.out ob 3).2
        clear hon hr2 ho2
        unfold EVal.val exV
        go_wp2
        refine bodyPost_ret (v := EVal.val ⟨4, ⟨#[]⟩, 0, some ⟨w2.heap.size, 0, none⟩, 1, 1⟩) (by simp [results, Tryd.results86, go_sem, q0, q1, q2, q3, EVal.val, exV]) rfl ?_
        refine ⟨_, rfl, ve_not HON.out (by omega) (p := w.heap.size) (by omega) (by omega) (only4 _ _ _ _ _ _), ?_, ?_⟩
        · exact (HR2.out.below (below_new4 _)).only (((((Below.refl N _).setCell hN1 _).setCell hN1 _).setCell hN1 _).setCell hN1 _)
        · exact only_set4 (HO2.out.trans (Only.alloc _ _ _) (fun _ _ h => h)) (Nat.le_refl _) _ _ _ _
  · by_cases c2 : textF ws = sLp
    · have e : eachStep E d one ws = thenP E sRp (deepP E d (condP E one) ws) := by unfold eachStep; rw [if_neg c1, if_pos c2]
      rw [e]
      cases ws with
      | nil => exact absurd c2 (by decide)
      | cons t r =>
        have HD : Hid (∀ o, Calls Tryd.prog 90 #[.pointer (some ⟨R, 0, none⟩), .func (.func 70) #[.pointer (some ⟨R, 0, none⟩)] #[]] (w.alloc o) (PE R E d B N (thenP E sRp (deepP E d (condP E one) (t :: r))) VE (w.alloc o))) := fun o =>
          bracketedE (h.below (below_new4 o)) hd0 hd1 70 #[.pointer (some ⟨R, 0, none⟩)] #[] (condP E one) (cf_of Tryd.func70 (by decide +kernel) (by kernel_rfl)) (fun hd w h => cond_any h (manyE E sAnd 2 one) P (hPt _ hP0) hPm (fun w ws hP h => allConds_any h one P hP hPn (hp hd)))
        rw [c2] at HT
        unfold sLp at HT
        clear h hp hPn hPm hP0 hPt e c1 c2
        generalize thenP E sRp (deepP E d (condP E one) (t :: r)) = q at *
        cases q with
        | error f =>
          unfold PE Ends at HD
          unfold PE Ends
          simp only at HD ⊢
          go_enter Tryd.func86, Tryd.ntmps86
          go_wp2_with fail
          refine (HT.out _).mono ?_
          rintro e w1 ⟨rfl, rfl⟩
          go_wp2_with fail
          refine (HD.out _).mono ?_
          rintro e w2 ⟨rfl, ho2⟩
          have HO2 := hide (HOA.out.trans ho2 (fun _ _ h => h))
          clear ho2
          go_wp2
          exact ⟨rfl, rfl, HO2.out⟩
        | ok p =>
          obtain ⟨a, r'⟩ := p
          unfold PE Ends at HD
          unfold PE Ends
          simp only at HD ⊢
          go_enter Tryd.func86, Tryd.ntmps86
          go_wp2_with fail
          refine (HT.out _).mono ?_
          rintro e w1 ⟨rfl, rfl⟩
          go_wp2_with fail
          refine (HD.out _).mono ?_
          rintro e w2 ⟨v, rfl, ⟨nv, rfl, hon⟩, hr2, ho2⟩
          have hsz2 := ho2.size
          have HON := hide hon
          have HR2 := hide hr2
          have HO2 := hide (HOA.out.trans ho2 (fun _ _ h => h))
          have HRN : Hid (ResE w2 w.heap.size) := HRES.out.only ho2 (by omega)
          obtain ⟨⟨q0, q1, q2, q3⟩, f0, f1, f2, f3⟩ := HRN.out.all
          clear hon hr2 ho2
          unfold EVal.val exV
          go_wp2
          refine bodyPost_ret (v := nv.val) (by simp [results, Tryd.results86, go_sem, q0, q1, q2, q3, EVal.val, exV]) rfl ?_
          refine ⟨_, rfl, ve_set HON.out (by omega) (p := w.heap.size) (by omega) (only4 _ _ _ _ _ _), ?_, ?_⟩
          · exact HR2.out.only (((((Below.refl N _).setCell hN1 _).setCell hN1 _).setCell hN1 _).setCell hN1 _)
          · exact only_set4 HO2.out (Nat.le_refl _) _ _ _ _
    · by_cases c4 : textF ws = sAnd ∨ textF ws = sOr
      · have e : eachStep E d one ws = .error (atF E ws, 20) := by unfold eachStep; rw [if_neg c1, if_neg c2, if_pos c4]
        rw [e]
        have HF : Hid (∀ o, Calls Tryd.prog 39 #[.pointer (some ⟨R, 0, none⟩), .int .i64 20] (w.alloc o) fun e w' => e = .returned (.agg #[.int .i64 (atF E ws), .int .i64 20]) ∧ Below (w.alloc o).heap.size (w.alloc o) w') := fun o => fault_any (h.below (below_new4 o)) 20
        clear h hp hPn hPm hP0 hPt e c1 c2
        rcases c4 with c | c
        all_goals
          rw [c] at HT
          first | unfold sAnd at HT | unfold sOr at HT
          clear c
          go_enter Tryd.func86, Tryd.ntmps86
          go_wp2_with fail
          refine (HT.out _).mono ?_
          rintro e w1 ⟨rfl, rfl⟩
          go_wp2_with fail
          refine (HF.out _).mono ?_
          rintro e w2 ⟨rfl, hb⟩
          have HO2 := hide (HOA.out.trans (Only.below hb) (fun _ _ h => h))
          clear hb
          go_wp2
          exact ⟨rfl, rfl, HO2.out⟩
      · have e : eachStep E d one ws = hasE (refWP E ws) := by unfold eachStep; rw [if_neg c1, if_neg c2, if_neg c4]
        rw [e]
        have HD : Hid (∀ o, Calls Tryd.prog 62 #[.pointer (some ⟨R, 0, none⟩)] (w.alloc o) (PE R E d B N (refWP E ws) VR (w.alloc o))) := fun o => ref_any (h.below (below_new4 o))
        simp only [not_or] at c4
        obtain ⟨m7, m8⟩ := c4
        have n1 := str_ne2 [110, 111, 116] c1
        have n2 := str_ne2 [40] c2
        have n9 := str_ne2 [97, 110, 100] m7
        have n10 := str_ne2 [111, 114] m8
        clear h hp hPn hPm hP0 hPt e c1 c2 m7 m8
        generalize textF ws = y at *
        generalize refWP E ws = q at *
        cases q with
        | error f =>
          unfold PE Ends at HD
          unfold hasE PE Ends
          simp only at HD ⊢
          go_enter Tryd.func86, Tryd.ntmps86
          go_wp2_with fail
          refine (HT.out _).mono ?_
          rintro e w1 ⟨rfl, rfl⟩
          go_wp2_with fail
          refine (HD.out _).mono ?_
          rintro e w2 ⟨rfl, ho2⟩
          have HO2 := hide (HOA.out.trans ho2 (fun _ _ h => h))
          clear ho2
          go_wp2
          exact ⟨rfl, rfl, HO2.out⟩
        | ok p =>
          obtain ⟨⟨nm, wh⟩, r'⟩ := p
          unfold PE Ends VR at HD
          unfold hasE PE Ends
          simp only at HD ⊢
          go_enter Tryd.func86, Tryd.ntmps86
          go_wp2_with fail
          refine (HT.out _).mono ?_
          rintro e w1 ⟨rfl, rfl⟩
          go_wp2_with fail
          refine (HD.out _).mono ?_
          rintro e w2 ⟨v, rfl, rfl, hr2, ho2⟩
          have hsz2 := ho2.size
          have HR2 := hide hr2
          have HO2 := hide (HOA.out.trans ho2 (fun _ _ h => h))
          have HRN : Hid (ResE w2 w.heap.size) := HRES.out.only ho2 (by omega)
          obtain ⟨⟨q0, q1, q2, q3⟩, f0, f1, f2, f3⟩ := HRN.out.all
          clear hr2 ho2
          go_wp2
          refine bodyPost_ret (v := EVal.val ⟨1, nm, wh, none, 0, 0⟩) (by simp [results, Tryd.results86, go_sem, q0, q1, q2, q3, EVal.val, exV]) rfl ?_
          refine ⟨_, rfl, ve_has nm wh, ?_, ?_⟩
          · exact HR2.out.only (((((Below.refl N _).setCell hN1 _).setCell hN1 _).setCell hN1 _).setCell hN1 _)
          · exact only_set4 HO2.out (Nat.le_refl _) _ _ _ _
end Go.Proofs.YtkpgfhapffijkaaDoor

