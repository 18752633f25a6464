/- Package jdl: a condition's name and its day. -/
import Derived.Test.YtkpgfhapffijkaaGreatDoorR13
namespace Go.DsJd
open Go.DsLx Go.DsMk
def whenL : List ByteArray := [⟨#[111, 100, 97, 116]⟩, ⟨#[112, 114, 101, 118]⟩, ⟨#[97, 110, 121]⟩]
def refWP (E : Int) (ws : List Tk) : Except Fl ((ByteArray × Int) × List Tk) :=
  match nameP E ws with
  | .error f => .error f
  | .ok (n, r) => if textF r = ⟨#[46]⟩ then (match choiceP E whenL r.tail with | .error f => .error f | .ok (i, r2) => .ok ((n, i), r2)) else .ok ((n, 0), r)
end Go.DsJd
namespace Go.Proofs.YtkpgfhapffijkaaGreatDoor
open Go.ChangeShapes Go.WideShapes Go.ChangeAt Go.RowKit Go.DsMem Go.DsLx Go.DsJd Go.DsMk
set_option linter.unusedVariables false
def VR (w : World) (p : ByteArray × Int) (v : Value) (w' : World) : Prop := v = .tuple #[.string p.1, .int .i64 p.2]
set_option maxHeartbeats 1000000 in
/-- jdl.whenWords -/
theorem whenWords (w : World) : Calls Tryz.prog 176 #[] w fun e w' => e = .returned (.slice (some ⟨w.heap.size, 0, none⟩) 3 3) ∧ w' = w.alloc (.cells (strs whenL) 9) := by
  go_enter Tryz.func176, Tryz.ntmps176
  go_wp2
  go_ret
  exact ⟨rfl, rfl⟩
set_option maxHeartbeats 4000000 in
set_option maxRecDepth 20000 in
/-- (*jdl.reader).ref -/
theorem ref_any {w : World} {R : Nat} {E d : Int} {B N : Nat} {ws : List Tk} (h : Rdr w R E d B N ws) : Calls Tryz.prog 190 #[.pointer (some ⟨R, 0, none⟩)] w (PE R E d B N (refWP E ws) VR w) := by
  have HN := hide (name_any h)
  clear h
  unfold refWP
  generalize nameP E ws = q at *
  cases q with
  | error f =>
    unfold PE Ends at HN
    unfold PE Ends
    simp only at HN ⊢
    go_enter Tryz.func190, Tryz.ntmps190
    go_wp2_with fail
    refine HN.out.mono ?_
    rintro e w1 ⟨rfl, ho⟩
    have HO := hide ho
    clear ho
    go_wp2
    exact ⟨rfl, rfl, HO.out⟩
  | ok p =>
    obtain ⟨n, r⟩ := p
    unfold PE Ends VS at HN
    simp only at HN ⊢
    by_cases hs : textF r = ⟨#[46]⟩
    · rw [if_pos hs]
      cases r with
      | nil => exact absurd hs (by decide)
      | cons t r' =>
        simp only [textF] at hs
        simp only [List.tail_cons]
        have HTK := hide (fun (w : World) (h : Rdr w R E d B N (t :: r')) => take_yes h)
        rw [hs] at HTK
        have HC : Hid (∀ w : World, Rdr w R E d B N r' → Calls Tryz.prog 189 #[.pointer (some ⟨R, 0, none⟩), .slice (some ⟨w.heap.size, 0, none⟩) 3 3] (w.alloc (.cells (strs whenL) 9)) (PE R E d B N (choiceP E whenL r') VI (w.alloc (.cells (strs whenL) 9)))) := fun w h =>
          choice_any (h.below (below_new4 _)) whenL w.heap.size 3 (by decide) (by decide) (by decide) (fun j x hx => strs_cells w whenL _ j x hx)
        generalize choiceP E whenL r' = q2 at *
        go_enter Tryz.func190, Tryz.ntmps190
        go_wp2_with fail
        refine HN.out.mono ?_
        rintro e w1 ⟨v, rfl, rfl, hr, ho⟩
        have HO := hide ho
        have HR := hide hr
        clear ho hr
        go_wp2_with fail
        refine (HTK.out _ HR.out).mono ?_
        rintro e w2 ⟨rfl, hr2, ho2⟩
        have HO2 := hide (HO.out.trans ho2 (fun _ _ h => h))
        have HR2 := hide hr2
        clear ho2 hr2
        go_wp2_with fail
        refine (whenWords w2).mono ?_
        rintro e w3 ⟨rfl, rfl⟩
        go_wp2_with fail
        refine (HC.out w2 HR2.out).mono ?_
        intro e w4 hz
        cases q2 with
        | error f =>
          obtain ⟨rfl, ho4⟩ := hz
          have HO4 := hide ((HO2.out.trans (Only.alloc _ _ _) (fun _ _ h => h)).trans ho4 (fun _ _ h => h))
          clear ho4
          go_wp2
          exact ⟨rfl, rfl, HO4.out⟩
        | ok p =>
          obtain ⟨i, r4⟩ := p
          obtain ⟨v, rfl, hv, hr4, ho4⟩ := hz
          unfold VI at hv
          subst hv
          have HO4 := hide ((HO2.out.trans (Only.alloc _ _ _) (fun _ _ h => h)).trans ho4 (fun _ _ h => h))
          have HR4 := hide hr4
          clear ho4 hr4
          go_wp2
          go_ret2
          exact ⟨_, rfl, rfl, HR4.out, HO4.out⟩
    · rw [if_neg hs]
      have HTK := hide (fun (w : World) (h : Rdr w R E d B N r) => take_no h hs)
      go_enter Tryz.func190, Tryz.ntmps190
      go_wp2_with fail
      refine HN.out.mono ?_
      rintro e w1 ⟨v, rfl, rfl, hr, ho⟩
      have HO := hide ho
      have HR := hide hr
      clear ho hr
      go_wp2_with fail
      refine (HTK.out _ HR.out).mono ?_
      rintro e w2 ⟨rfl, rfl⟩
      go_wp2
      go_ret2
      exact ⟨_, rfl, rfl, HR.out, HO.out⟩
end Go.Proofs.YtkpgfhapffijkaaGreatDoor

/- Package jdl: one of the conditions. Written by genl.py. -/
namespace Go.DsJd
open Go.DsLx Go.DsMk
def condP (E : Int) (one : List Tk → Except Fl (Ex × List Tk)) (ws : List Tk) : Except Fl (Ex × List Tk) := manyE E sOr 3 (manyE E sAnd 2 one) ws
def notE (x : Except Fl (Ex × List Tk)) : Except Fl (Ex × List Tk) := match x with | .error f => .error f | .ok (a, r) => .ok (.mk 4 ⟨#[]⟩ 0 [a], r)
def hasE (x : Except Fl ((ByteArray × Int) × List Tk)) : Except Fl (Ex × List Tk) := match x with | .error f => .error f | .ok (n, r) => .ok (.mk 1 n.1 n.2 [], r)
def eachStep (E d : Int) (one : List Tk → Except Fl (Ex × List Tk)) (ws : List Tk) : Except Fl (Ex × List Tk) :=
  if textF ws = sNot then notE (deepP E d one ws)
  else if textF ws = sLp then thenP E sRp (deepP E d (condP E one) ws)
  else if textF ws = sAnd ∨ textF ws = sOr then .error (atF E ws, 20)
  else hasE (refWP E ws)
end Go.DsJd
namespace Go.Proofs.YtkpgfhapffijkaaGreatDoor
open Go.ChangeShapes Go.WideShapes Go.ChangeAt Go.RowKit Go.DsMem Go.DsLx Go.DsJd Go.DsMk
set_option linter.unusedVariables false
theorem ve_not {w w2 W : World} {s0 p : Nat} {nv : EVal} {a : Ex} (hon : ExOn (fun b => s0 ≤ b ∧ b < w2.heap.size) w2 nv a) (hs0 : w.heap.size ≤ s0) (hp : p < s0) (hs2 : s0 ≤ w2.heap.size)
    (hW : Only (· = p) (w2.alloc (.cells #[.int .i64 nv.op, .string nv.nm, .int .i64 nv.wh, .slice nv.ko nv.kl nv.kc] 52)) W) : VE w (.mk 4 ⟨#[]⟩ 0 [a]) (EVal.val ⟨4, ⟨#[]⟩, 0, some ⟨w2.heap.size, 0, none⟩, 1, 1⟩) W := by
  have hz : (w2.alloc (.cells #[.int .i64 nv.op, .string nv.nm, .int .i64 nv.wh, .slice nv.ko nv.kl nv.kc] 52)).heap.size = w2.heap.size + 1 := by simp
  have hsz := hW.size
  have hnew : W.heap[w2.heap.size]? = some (.cells #[.int .i64 nv.op, .string nv.nm, .int .i64 nv.wh, .slice nv.ko nv.kl nv.kc] 52 (0, 0)) := by
    rw [hW.block w2.heap.size (by omega) (by omega)]; exact heap_alloc_new w2 _
  refine ⟨_, rfl, .mk 4 ⟨#[]⟩ 0 [a] (some ⟨w2.heap.size, 0, none⟩) 1 w2.heap.size (fun _ => nv) (by simp) (by simp) (fun _ => rfl) (fun _ => ⟨by omega, by omega⟩) (fun j hj => ?_) (fun j hj => ?_)⟩
  · obtain rfl : j = 0 := by simp at hj; omega
    exact ⟨by rw [cell_of hnew]; rfl, by rw [cell_of hnew]; rfl, by rw [cell_of hnew]; rfl, by rw [cell_of hnew]; rfl⟩
  · obtain rfl : j = 0 := by simp at hj; omega
    exact hon.mono (fun b hb => ⟨by omega, by omega⟩) (fun ad u hB hc => hW.cell (Below.keeps (below_new4 _) (Nat.le_refl _) hc) (by omega))
theorem ve_set {w w2 W : World} {s0 p : Nat} {nv : EVal} {a : Ex} (hon : ExOn (fun b => s0 ≤ b ∧ b < w2.heap.size) w2 nv a) (hs0 : w.heap.size ≤ s0) (hp : p < s0) (hW : Only (· = p) w2 W) : VE w a nv.val W :=
  ⟨nv, rfl, hon.mono (fun b hb => ⟨by omega, Nat.lt_of_lt_of_le hb.2 hW.size⟩) (fun ad u hB hc => hW.cell hc (by omega))⟩
theorem ve_has {w W : World} (n : ByteArray) (i : Int) : VE w (.mk 1 n i []) (EVal.val ⟨1, n, i, none, 0, 0⟩) W :=
  ⟨_, rfl, .mk 1 n i [] none 0 0 (fun _ => ⟨0, ⟨#[]⟩, 0, none, 0, 0⟩) (by simp) (by simp) (fun h => by simp at h) (fun h => by simp at h) (fun j hj => by simp at hj) (fun j hj => by simp at hj)⟩
set_option maxHeartbeats 8000000 in
set_option maxRecDepth 20000 in
/-- (*jdl.reader).eachCond -/
theorem eachCond_any {w : World} {R : Nat} {E d : Int} {B N : Nat} {ws : List Tk} (h : Rdr w R E d B N ws) (hd0 : 0 ≤ d) (hd1 : d ≤ 16) (one : List Tk → Except Fl (Ex × List Tk)) (P : List Tk → Prop) (hP0 : P ws) (hPt : ∀ ws, P ws → P ws.tail) (hPn : ∀ ws a r, P ws → one ws = .ok (a, r) → P r ∧ P r.tail) (hPm : ∀ ws a r, P ws → manyE E sAnd 2 one ws = .ok (a, r) → P r ∧ P r.tail)
    (hp : d < 16 → ∀ w ws, P ws → Rdr w R E (d + 1) B N ws → Calls Tryz.prog 234 #[.pointer (some ⟨R, 0, none⟩)] w (PE R E (d + 1) B N (one ws) VE w)) :
    Calls Tryz.prog 234 #[.pointer (some ⟨R, 0, none⟩)] w (PE R E d B N (eachStep E d one ws) VE w) := by
  obtain ⟨hN1, hN2⟩ := h.n
  have hmf : ∀ (fn : Fn) (first cap : Array Value) (w : World), (Instr.makeFunc fn first cap).run Tryz.prog w = .ok (.func fn first cap) w := fun _ _ _ _ => rfl
  have HRES : Hid (ResE (w.alloc (.cells #[.int .i64 0, .string ⟨#[]⟩, .int .i64 0, .slice none 0 0] 52)) w.heap.size) := heap_alloc_new w _
  have HOA : Hid (Only (· = R) w (w.alloc (.cells #[.int .i64 0, .string ⟨#[]⟩, .int .i64 0, .slice none 0 0] 52))) := Only.alloc _ _ _
  have hzA : (w.alloc (.cells #[.int .i64 0, .string ⟨#[]⟩, .int .i64 0, .slice none 0 0] 52)).heap.size = w.heap.size + 1 := by simp
  have HT : Hid (∀ o, Calls Tryz.prog 95 #[.pointer (some ⟨R, 0, none⟩)] (w.alloc o) fun e w' => e = .returned (.string (textF ws)) ∧ w' = w.alloc o) := fun o => text_any (h.below (below_new4 o))
  by_cases c1 : textF ws = sNot
  · have e : eachStep E d one ws = notE (deepP E d one ws) := by unfold eachStep; rw [if_pos c1]
    rw [e]
    cases ws with
    | nil => exact absurd c1 (by decide)
    | cons t r =>
      have HD : Hid (∀ o, Calls Tryz.prog 237 #[.pointer (some ⟨R, 0, none⟩), .func (.func 234) #[.pointer (some ⟨R, 0, none⟩)] #[]] (w.alloc o) (PE R E d B N (deepP E d one (t :: r)) VE (w.alloc o))) := fun o =>
        deeperE (h.below (below_new4 o)) hd0 hd1 234 #[.pointer (some ⟨R, 0, none⟩)] #[] one (cf_of Tryz.func234 (by decide +kernel) (by kernel_rfl)) (fun hd w h => hp hd w r (hPt _ hP0) h)
      rw [c1] at HT
      unfold sNot at HT
      clear h hp hPn hPm hP0 hPt e c1
      generalize deepP E d one (t :: r) = q at *
      cases q with
      | error f =>
        unfold PE Ends at HD
        unfold notE PE Ends
        simp only at HD ⊢
        go_enter Tryz.func234, Tryz.ntmps234
        go_wp2_with fail
        refine (HT.out _).mono ?_
        rintro e w1 ⟨rfl, rfl⟩
        go_wp2_with fail
        refine (HD.out _).mono ?_
        rintro e w2 ⟨rfl, ho2⟩
        have HO2 := hide (HOA.out.trans ho2 (fun _ _ h => h))
        clear ho2
        go_wp2
        exact ⟨rfl, rfl, HO2.out⟩
      | ok p =>
        obtain ⟨a, r'⟩ := p
        unfold PE Ends at HD
        unfold notE PE Ends
        simp only at HD ⊢
        go_enter Tryz.func234, Tryz.ntmps234
        go_wp2_with fail
        refine (HT.out _).mono ?_
        rintro e w1 ⟨rfl, rfl⟩
        go_wp2_with fail
        refine (HD.out _).mono ?_
        rintro e w2 ⟨v, rfl, ⟨nv, rfl, hon⟩, hr2, ho2⟩
        have hsz2 := ho2.size
        have HON := hide hon
        have HR2 := hide hr2
        have HO2 := hide (HOA.out.trans ho2 (fun _ _ h => h))
        have HRN : Hid (ResE w2 w.heap.size) := HRES.out.only ho2 (by omega)
        have q0 : ∀ ob, (w2.alloc ob).cell? ⟨w.heap.size, 0, none⟩ = some (.int .i64 0) := fun ob => (past HRN.out ob 0).1
        have f0 : ∀ ob, (w2.alloc ob).frozen? ⟨w.heap.size, 0, none⟩ = false := fun ob => (past HRN.out ob 0).2
        have q1 : ∀ ob, (w2.alloc ob).cell? ⟨w.heap.size, 1, none⟩ = some (.string ⟨#[]⟩) := fun ob => (past HRN.out ob 1).1
        have f1 : ∀ ob, (w2.alloc ob).frozen? ⟨w.heap.size, 1, none⟩ = false := fun ob => (past HRN.out ob 1).2
        have q2 : ∀ ob, (w2.alloc ob).cell? ⟨w.heap.size, 2, none⟩ = some (.int .i64 0) := fun ob => (past HRN.out ob 2).1
        have f2 : ∀ ob, (w2.alloc ob).frozen? ⟨w.heap.size, 2, none⟩ = false := fun ob => (past HRN.out ob 2).2
        have q3 : ∀ ob, (w2.alloc ob).cell? ⟨w.heap.size, 3, none⟩ = some (.slice none 0 0) := fun ob => (past HRN.out ob 3).1
        have f3 : ∀ ob, (w2.alloc ob).frozen? ⟨w.heap.size, 3, none⟩ = false := fun ob => (past HRN.out ob 3).2
        clear hon hr2 ho2
        unfold EVal.val exV
        go_wp2
        refine bodyPost_ret (v := EVal.val ⟨4, ⟨#[]⟩, 0, some ⟨w2.heap.size, 0, none⟩, 1, 1⟩) (by simp [results, Tryz.results234, go_sem, q0, q1, q2, q3, EVal.val, exV]) rfl ?_
        refine ⟨_, rfl, ve_not HON.out (by omega) (p := w.heap.size) (by omega) (by omega) (only4 _ _ _ _ _ _), ?_, ?_⟩
        · exact (HR2.out.below (below_new4 _)).only (((((Below.refl N _).setCell hN1 _).setCell hN1 _).setCell hN1 _).setCell hN1 _)
        · exact only_set4 (HO2.out.trans (Only.alloc _ _ _) (fun _ _ h => h)) (Nat.le_refl _) _ _ _ _
  · by_cases c2 : textF ws = sLp
    · have e : eachStep E d one ws = thenP E sRp (deepP E d (condP E one) ws) := by unfold eachStep; rw [if_neg c1, if_pos c2]
      rw [e]
      cases ws with
      | nil => exact absurd c2 (by decide)
      | cons t r =>
        have HD : Hid (∀ o, Calls Tryz.prog 238 #[.pointer (some ⟨R, 0, none⟩), .func (.func 197) #[.pointer (some ⟨R, 0, none⟩)] #[]] (w.alloc o) (PE R E d B N (thenP E sRp (deepP E d (condP E one) (t :: r))) VE (w.alloc o))) := fun o =>
          bracketedE (h.below (below_new4 o)) hd0 hd1 197 #[.pointer (some ⟨R, 0, none⟩)] #[] (condP E one) (cf_of Tryz.func197 (by decide +kernel) (by kernel_rfl)) (fun hd w h => cond_any h (manyE E sAnd 2 one) P (hPt _ hP0) hPm (fun w ws hP h => allConds_any h one P hP hPn (hp hd)))
        rw [c2] at HT
        unfold sLp at HT
        clear h hp hPn hPm hP0 hPt e c1 c2
        generalize thenP E sRp (deepP E d (condP E one) (t :: r)) = q at *
        cases q with
        | error f =>
          unfold PE Ends at HD
          unfold PE Ends
          simp only at HD ⊢
          go_enter Tryz.func234, Tryz.ntmps234
          go_wp2_with fail
          refine (HT.out _).mono ?_
          rintro e w1 ⟨rfl, rfl⟩
          go_wp2_with fail
          refine (HD.out _).mono ?_
          rintro e w2 ⟨rfl, ho2⟩
          have HO2 := hide (HOA.out.trans ho2 (fun _ _ h => h))
          clear ho2
          go_wp2
          exact ⟨rfl, rfl, HO2.out⟩
        | ok p =>
          obtain ⟨a, r'⟩ := p
          unfold PE Ends at HD
          unfold PE Ends
          simp only at HD ⊢
          go_enter Tryz.func234, Tryz.ntmps234
          go_wp2_with fail
          refine (HT.out _).mono ?_
          rintro e w1 ⟨rfl, rfl⟩
          go_wp2_with fail
          refine (HD.out _).mono ?_
          rintro e w2 ⟨v, rfl, ⟨nv, rfl, hon⟩, hr2, ho2⟩
          have hsz2 := ho2.size
          have HON := hide hon
          have HR2 := hide hr2
          have HO2 := hide (HOA.out.trans ho2 (fun _ _ h => h))
          have HRN : Hid (ResE w2 w.heap.size) := HRES.out.only ho2 (by omega)
          obtain ⟨⟨q0, q1, q2, q3⟩, f0, f1, f2, f3⟩ := HRN.out.all
          clear hon hr2 ho2
          unfold EVal.val exV
          go_wp2
          refine bodyPost_ret (v := nv.val) (by simp [results, Tryz.results234, go_sem, q0, q1, q2, q3, EVal.val, exV]) rfl ?_
          refine ⟨_, rfl, ve_set HON.out (by omega) (p := w.heap.size) (by omega) (only4 _ _ _ _ _ _), ?_, ?_⟩
          · exact HR2.out.only (((((Below.refl N _).setCell hN1 _).setCell hN1 _).setCell hN1 _).setCell hN1 _)
          · exact only_set4 HO2.out (Nat.le_refl _) _ _ _ _
    · by_cases c4 : textF ws = sAnd ∨ textF ws = sOr
      · have e : eachStep E d one ws = .error (atF E ws, 20) := by unfold eachStep; rw [if_neg c1, if_neg c2, if_pos c4]
        rw [e]
        have HF : Hid (∀ o, Calls Tryz.prog 107 #[.pointer (some ⟨R, 0, none⟩), .int .i64 20] (w.alloc o) fun e w' => e = .returned (.agg #[.int .i64 (atF E ws), .int .i64 20]) ∧ Below (w.alloc o).heap.size (w.alloc o) w') := fun o => fault_any (h.below (below_new4 o)) 20
        clear h hp hPn hPm hP0 hPt e c1 c2
        rcases c4 with c | c
        all_goals
          rw [c] at HT
          first | unfold sAnd at HT | unfold sOr at HT
          clear c
          go_enter Tryz.func234, Tryz.ntmps234
          go_wp2_with fail
          refine (HT.out _).mono ?_
          rintro e w1 ⟨rfl, rfl⟩
          go_wp2_with fail
          refine (HF.out _).mono ?_
          rintro e w2 ⟨rfl, hb⟩
          have HO2 := hide (HOA.out.trans (Only.below hb) (fun _ _ h => h))
          clear hb
          go_wp2
          exact ⟨rfl, rfl, HO2.out⟩
      · have e : eachStep E d one ws = hasE (refWP E ws) := by unfold eachStep; rw [if_neg c1, if_neg c2, if_neg c4]
        rw [e]
        have HD : Hid (∀ o, Calls Tryz.prog 190 #[.pointer (some ⟨R, 0, none⟩)] (w.alloc o) (PE R E d B N (refWP E ws) VR (w.alloc o))) := fun o => ref_any (h.below (below_new4 o))
        simp only [not_or] at c4
        obtain ⟨m7, m8⟩ := c4
        have n1 := str_ne2 [110, 111, 116] c1
        have n2 := str_ne2 [40] c2
        have n9 := str_ne2 [97, 110, 100] m7
        have n10 := str_ne2 [111, 114] m8
        clear h hp hPn hPm hP0 hPt e c1 c2 m7 m8
        generalize textF ws = y at *
        generalize refWP E ws = q at *
        cases q with
        | error f =>
          unfold PE Ends at HD
          unfold hasE PE Ends
          simp only at HD ⊢
          go_enter Tryz.func234, Tryz.ntmps234
          go_wp2_with fail
          refine (HT.out _).mono ?_
          rintro e w1 ⟨rfl, rfl⟩
          go_wp2_with fail
          refine (HD.out _).mono ?_
          rintro e w2 ⟨rfl, ho2⟩
          have HO2 := hide (HOA.out.trans ho2 (fun _ _ h => h))
          clear ho2
          go_wp2
          exact ⟨rfl, rfl, HO2.out⟩
        | ok p =>
          obtain ⟨⟨nm, wh⟩, r'⟩ := p
          unfold PE Ends VR at HD
          unfold hasE PE Ends
          simp only at HD ⊢
          go_enter Tryz.func234, Tryz.ntmps234
          go_wp2_with fail
          refine (HT.out _).mono ?_
          rintro e w1 ⟨rfl, rfl⟩
          go_wp2_with fail
          refine (HD.out _).mono ?_
          rintro e w2 ⟨v, rfl, rfl, hr2, ho2⟩
          have hsz2 := ho2.size
          have HR2 := hide hr2
          have HO2 := hide (HOA.out.trans ho2 (fun _ _ h => h))
          have HRN : Hid (ResE w2 w.heap.size) := HRES.out.only ho2 (by omega)
          obtain ⟨⟨q0, q1, q2, q3⟩, f0, f1, f2, f3⟩ := HRN.out.all
          clear hr2 ho2
          go_wp2
          refine bodyPost_ret (v := EVal.val ⟨1, nm, wh, none, 0, 0⟩) (by simp [results, Tryz.results234, go_sem, q0, q1, q2, q3, EVal.val, exV]) rfl ?_
          refine ⟨_, rfl, ve_has nm wh, ?_, ?_⟩
          · exact HR2.out.only (((((Below.refl N _).setCell hN1 _).setCell hN1 _).setCell hN1 _).setCell hN1 _)
          · exact only_set4 HO2.out (Nat.le_refl _) _ _ _ _
end Go.Proofs.YtkpgfhapffijkaaGreatDoor

/- Package jdl: resources, locks, needs, windows. Written by genp.py. -/
namespace Go.DsJd
open Go.DsLx Go.DsMk
/-- one part behind the other -/
def twoP {α β : Type} (p1 : List Tk → Except Fl (α × List Tk)) (p2 : List Tk → Except Fl (β × List Tk)) (ws : List Tk) : Except Fl ((α × β) × List Tk) :=
  match p1 ws with
  | .error f => .error f
  | .ok (a, r) => match p2 r with
    | .error f => .error f
    | .ok (b, r2) => .ok ((a, b), r2)
end Go.DsJd
namespace Go.Proofs.YtkpgfhapffijkaaGreatDoor
open Go.ChangeShapes Go.WideShapes Go.ChangeAt Go.RowKit Go.DsMem Go.DsLx Go.DsJd Go.DsMk
set_option linter.unusedVariables false
theorem heap_only {w w' : World} {p R : Nat} {o : Obj} (h : w.heap[p]? = some o) (ho : Only (· = R) w w') (hp : p ≠ R) : w'.heap[p]? = some o := by
  rw [ho.block p (block_lt h) hp]; exact h
theorem only_set3 {w w' : World} {R p : Nat} (h : Only (· = R) w w') (hp : w.heap.size ≤ p) (a b c : Value) : Only (· = R) w (((w'.setCell ⟨p, 0, none⟩ a).setCell ⟨p, 1, none⟩ b).setCell ⟨p, 2, none⟩ c) := by
  refine h.trans (T := (· = p)) ?_ (fun i hi e => absurd e (by omega))
  exact ((Only.set w' p 0 _).trans (Only.set _ p 1 _) (fun _ _ h => h)).trans (Only.set _ p 2 _) (fun _ _ h => h)
theorem only_set2 {w w' : World} {R p : Nat} (h : Only (· = R) w w') (hp : w.heap.size ≤ p) (a b : Value) : Only (· = R) w ((w'.setCell ⟨p, 0, none⟩ a).setCell ⟨p, 1, none⟩ b) := by
  refine h.trans (T := (· = p)) ?_ (fun i hi e => absurd e (by omega))
  exact (Only.set w' p 0 _).trans (Only.set _ p 1 _) (fun _ _ h => h)
/-- a resource, a need, a window -/
def VRes (w : World) (p : ByteArray × Int) (v : Value) (w' : World) : Prop := v = .agg #[.string p.1, .int .i64 p.2, .bool false]
def VLock (w : World) (p : ByteArray) (v : Value) (w' : World) : Prop := v = .agg #[.string p, .int .i64 0, .bool true]
def VNeed (w : World) (p : ByteArray × Int) (v : Value) (w' : World) : Prop := v = .agg #[.string p.1, .int .i64 p.2, .int .i64 0]
def VWin (w : World) (p : Int × Int) (v : Value) (w' : World) : Prop := v = .agg #[.int .i64 p.1, .int .i64 p.2]
set_option maxHeartbeats 4000000 in
set_option maxRecDepth 20000 in
/-- (*jdl.reader).resource -/
theorem resource_any {w : World} {R : Nat} {E d : Int} {B N : Nat} {ws : List Tk} (h : Rdr w R E d B N ws) : Calls Tryz.prog 104 #[.pointer (some ⟨R, 0, none⟩)] w (PE R E d B N (twoP (nameP E) (numP E) ws) VRes w) := by
  obtain ⟨hN1, hN2⟩ := h.n
  have HN : Hid (∀ o, _) := hide (fun o => name_any (h.below (below_new4 o)))
  have HN2 := hide (fun (w : World) (r : List Tk) (h : Rdr w R E d B N r) => number_any h)
  have HRES : Hid ((w.alloc (.cells #[.string ⟨#[]⟩, .int .i64 0, .bool false] 32)).heap[w.heap.size]? = some (.cells #[.string ⟨#[]⟩, .int .i64 0, .bool false] 32 (0, 0))) := heap_alloc_new w _
  have HOA : Hid (Only (· = R) w (w.alloc (.cells #[.string ⟨#[]⟩, .int .i64 0, .bool false] 32))) := Only.alloc _ _ _
  clear h
  unfold twoP
  generalize nameP E ws = q at *
  cases q with
  | error f =>
    unfold PE Ends at HN
    unfold PE Ends
    simp only at HN ⊢
    go_enter Tryz.func104, Tryz.ntmps104
    go_wp2_with fail
    refine (HN.out _).mono ?_
    rintro e w1 ⟨rfl, ho⟩
    have HO := hide (HOA.out.trans ho (fun _ _ h => h))
    clear ho
    go_wp2
    exact ⟨rfl, rfl, HO.out⟩
  | ok p =>
    obtain ⟨n, r⟩ := p
    unfold PE Ends VS at HN
    simp only at HN ⊢
    have HN3 := hide (fun (w : World) h => HN2.out w r h)
    clear HN2
    generalize numP E r = q2 at *
    cases q2 with
    | error f =>
      unfold PE Ends at HN3
      unfold PE Ends
      simp only at HN3 ⊢
      go_enter Tryz.func104, Tryz.ntmps104
      go_wp2_with fail
      refine (HN.out _).mono ?_
      rintro e w1 ⟨v, rfl, rfl, hr, ho⟩
      have HO := hide (HOA.out.trans ho (fun _ _ h => h))
      have HR := hide hr
      clear ho hr
      go_wp2_with fail
      refine (HN3.out _ HR.out).mono ?_
      rintro e w2 ⟨rfl, ho2⟩
      have HO2 := hide (HO.out.trans ho2 (fun _ _ h => h))
      clear ho2
      go_wp2
      exact ⟨rfl, rfl, HO2.out⟩
    | ok p =>
      obtain ⟨k, r2⟩ := p
      unfold PE Ends VI at HN3
      unfold PE Ends VRes
      simp only at HN3 ⊢
      go_enter Tryz.func104, Tryz.ntmps104
      go_wp2_with fail
      refine (HN.out _).mono ?_
      rintro e w1 ⟨v, rfl, rfl, hr, ho⟩
      have HO := hide (HOA.out.trans ho (fun _ _ h => h))
      have HR := hide hr
      have HRES1 := hide (heap_only HRES.out ho (by omega))
      clear ho hr
      go_wp2_with fail
      refine (HN3.out _ HR.out).mono ?_
      rintro e w2 ⟨v, rfl, rfl, hr2, ho2⟩
      have HO2 := hide (HO.out.trans ho2 (fun _ _ h => h))
      have HR2 := hide hr2
      have hres := heap_only HRES1.out ho2 (by omega)
      have q0 : w2.cell? ⟨w.heap.size, 0, none⟩ = some (.string ⟨#[]⟩) := by rw [cell_of hres]; rfl
      have f0 : w2.frozen? ⟨w.heap.size, 0, none⟩ = false := frozen_of hres
      have q1 : w2.cell? ⟨w.heap.size, 1, none⟩ = some (.int .i64 0) := by rw [cell_of hres]; rfl
      have f1 : w2.frozen? ⟨w.heap.size, 1, none⟩ = false := frozen_of hres
      have q2 : w2.cell? ⟨w.heap.size, 2, none⟩ = some (.bool false) := by rw [cell_of hres]; rfl
      have f2 : w2.frozen? ⟨w.heap.size, 2, none⟩ = false := frozen_of hres
      clear ho2 hr2 hres
      go_wp2
      refine bodyPost_ret (v := .agg #[.string n, .int .i64 k, .bool false]) (by simp [results, Tryz.results104, go_sem, q0, q1, q2]) rfl ?_
      exact ⟨_, rfl, rfl, HR2.out.only ((((Below.refl N _).setCell hN1 _).setCell hN1 _).setCell hN1 _), only_set3 HO2.out (Nat.le_refl _) _ _ _⟩
set_option maxHeartbeats 4000000 in
set_option maxRecDepth 20000 in
/-- (*jdl.reader).need -/
theorem need_any {w : World} {R : Nat} {E d : Int} {B N : Nat} {ws : List Tk} (h : Rdr w R E d B N ws) : Calls Tryz.prog 168 #[.pointer (some ⟨R, 0, none⟩)] w (PE R E d B N (twoP (nameP E) (numP E) ws) VNeed w) := by
  obtain ⟨hN1, hN2⟩ := h.n
  have HN : Hid (∀ o, _) := hide (fun o => name_any (h.below (below_new4 o)))
  have HN2 := hide (fun (w : World) (r : List Tk) (h : Rdr w R E d B N r) => number_any h)
  have HRES : Hid ((w.alloc (.cells #[.string ⟨#[]⟩, .int .i64 0, .int .i64 0] 58)).heap[w.heap.size]? = some (.cells #[.string ⟨#[]⟩, .int .i64 0, .int .i64 0] 58 (0, 0))) := heap_alloc_new w _
  have HOA : Hid (Only (· = R) w (w.alloc (.cells #[.string ⟨#[]⟩, .int .i64 0, .int .i64 0] 58))) := Only.alloc _ _ _
  clear h
  unfold twoP
  generalize nameP E ws = q at *
  cases q with
  | error f =>
    unfold PE Ends at HN
    unfold PE Ends
    simp only at HN ⊢
    go_enter Tryz.func168, Tryz.ntmps168
    go_wp2_with fail
    refine (HN.out _).mono ?_
    rintro e w1 ⟨rfl, ho⟩
    have HO := hide (HOA.out.trans ho (fun _ _ h => h))
    clear ho
    go_wp2
    exact ⟨rfl, rfl, HO.out⟩
  | ok p =>
    obtain ⟨n, r⟩ := p
    unfold PE Ends VS at HN
    simp only at HN ⊢
    have HN3 := hide (fun (w : World) h => HN2.out w r h)
    clear HN2
    generalize numP E r = q2 at *
    cases q2 with
    | error f =>
      unfold PE Ends at HN3
      unfold PE Ends
      simp only at HN3 ⊢
      go_enter Tryz.func168, Tryz.ntmps168
      go_wp2_with fail
      refine (HN.out _).mono ?_
      rintro e w1 ⟨v, rfl, rfl, hr, ho⟩
      have HO := hide (HOA.out.trans ho (fun _ _ h => h))
      have HR := hide hr
      clear ho hr
      go_wp2_with fail
      refine (HN3.out _ HR.out).mono ?_
      rintro e w2 ⟨rfl, ho2⟩
      have HO2 := hide (HO.out.trans ho2 (fun _ _ h => h))
      clear ho2
      go_wp2
      exact ⟨rfl, rfl, HO2.out⟩
    | ok p =>
      obtain ⟨k, r2⟩ := p
      unfold PE Ends VI at HN3
      unfold PE Ends VNeed
      simp only at HN3 ⊢
      go_enter Tryz.func168, Tryz.ntmps168
      go_wp2_with fail
      refine (HN.out _).mono ?_
      rintro e w1 ⟨v, rfl, rfl, hr, ho⟩
      have HO := hide (HOA.out.trans ho (fun _ _ h => h))
      have HR := hide hr
      have HRES1 := hide (heap_only HRES.out ho (by omega))
      clear ho hr
      go_wp2_with fail
      refine (HN3.out _ HR.out).mono ?_
      rintro e w2 ⟨v, rfl, rfl, hr2, ho2⟩
      have HO2 := hide (HO.out.trans ho2 (fun _ _ h => h))
      have HR2 := hide hr2
      have hres := heap_only HRES1.out ho2 (by omega)
      have q0 : w2.cell? ⟨w.heap.size, 0, none⟩ = some (.string ⟨#[]⟩) := by rw [cell_of hres]; rfl
      have f0 : w2.frozen? ⟨w.heap.size, 0, none⟩ = false := frozen_of hres
      have q1 : w2.cell? ⟨w.heap.size, 1, none⟩ = some (.int .i64 0) := by rw [cell_of hres]; rfl
      have f1 : w2.frozen? ⟨w.heap.size, 1, none⟩ = false := frozen_of hres
      have q2 : w2.cell? ⟨w.heap.size, 2, none⟩ = some (.int .i64 0) := by rw [cell_of hres]; rfl
      have f2 : w2.frozen? ⟨w.heap.size, 2, none⟩ = false := frozen_of hres
      clear ho2 hr2 hres
      go_wp2
      refine bodyPost_ret (v := .agg #[.string n, .int .i64 k, .int .i64 0]) (by simp [results, Tryz.results168, go_sem, q0, q1, q2]) rfl ?_
      exact ⟨_, rfl, rfl, HR2.out.only ((((Below.refl N _).setCell hN1 _).setCell hN1 _).setCell hN1 _), only_set3 HO2.out (Nat.le_refl _) _ _ _⟩
set_option maxHeartbeats 4000000 in
set_option maxRecDepth 20000 in
/-- (*jdl.reader).window -/
theorem window_any {w : World} {R : Nat} {E d : Int} {B N : Nat} {ws : List Tk} (h : Rdr w R E d B N ws) : Calls Tryz.prog 195 #[.pointer (some ⟨R, 0, none⟩)] w (PE R E d B N (twoP (timeP E) (timeP E) ws) VWin w) := by
  obtain ⟨hN1, hN2⟩ := h.n
  have HN : Hid (∀ o, _) := hide (fun o => time_any (h.below (below_new4 o)))
  have HN2 := hide (fun (w : World) (r : List Tk) (h : Rdr w R E d B N r) => time_any h)
  have HRES : Hid ((w.alloc (.cells #[.int .i64 0, .int .i64 0] 291)).heap[w.heap.size]? = some (.cells #[.int .i64 0, .int .i64 0] 291 (0, 0))) := heap_alloc_new w _
  have HOA : Hid (Only (· = R) w (w.alloc (.cells #[.int .i64 0, .int .i64 0] 291))) := Only.alloc _ _ _
  clear h
  unfold twoP
  generalize timeP E ws = q at *
  cases q with
  | error f =>
    unfold PE Ends at HN
    unfold PE Ends
    simp only at HN ⊢
    go_enter Tryz.func195, Tryz.ntmps195
    go_wp2_with fail
    refine (HN.out _).mono ?_
    rintro e w1 ⟨rfl, ho⟩
    have HO := hide (HOA.out.trans ho (fun _ _ h => h))
    clear ho
    go_wp2
    exact ⟨rfl, rfl, HO.out⟩
  | ok p =>
    obtain ⟨n, r⟩ := p
    unfold PE Ends VI at HN
    simp only at HN ⊢
    have HN3 := hide (fun (w : World) h => HN2.out w r h)
    clear HN2
    generalize timeP E r = q2 at *
    cases q2 with
    | error f =>
      unfold PE Ends at HN3
      unfold PE Ends
      simp only at HN3 ⊢
      go_enter Tryz.func195, Tryz.ntmps195
      go_wp2_with fail
      refine (HN.out _).mono ?_
      rintro e w1 ⟨v, rfl, rfl, hr, ho⟩
      have HO := hide (HOA.out.trans ho (fun _ _ h => h))
      have HR := hide hr
      clear ho hr
      go_wp2_with fail
      refine (HN3.out _ HR.out).mono ?_
      rintro e w2 ⟨rfl, ho2⟩
      have HO2 := hide (HO.out.trans ho2 (fun _ _ h => h))
      clear ho2
      go_wp2
      exact ⟨rfl, rfl, HO2.out⟩
    | ok p =>
      obtain ⟨k, r2⟩ := p
      unfold PE Ends VI at HN3
      unfold PE Ends VWin
      simp only at HN3 ⊢
      go_enter Tryz.func195, Tryz.ntmps195
      go_wp2_with fail
      refine (HN.out _).mono ?_
      rintro e w1 ⟨v, rfl, rfl, hr, ho⟩
      have HO := hide (HOA.out.trans ho (fun _ _ h => h))
      have HR := hide hr
      have HRES1 := hide (heap_only HRES.out ho (by omega))
      clear ho hr
      go_wp2_with fail
      refine (HN3.out _ HR.out).mono ?_
      rintro e w2 ⟨v, rfl, rfl, hr2, ho2⟩
      have HO2 := hide (HO.out.trans ho2 (fun _ _ h => h))
      have HR2 := hide hr2
      have hres := heap_only HRES1.out ho2 (by omega)
      have q0 : w2.cell? ⟨w.heap.size, 0, none⟩ = some (.int .i64 0) := by rw [cell_of hres]; rfl
      have f0 : w2.frozen? ⟨w.heap.size, 0, none⟩ = false := frozen_of hres
      have q1 : w2.cell? ⟨w.heap.size, 1, none⟩ = some (.int .i64 0) := by rw [cell_of hres]; rfl
      have f1 : w2.frozen? ⟨w.heap.size, 1, none⟩ = false := frozen_of hres
      clear ho2 hr2 hres
      go_wp2
      refine bodyPost_ret (v := .agg #[.int .i64 n, .int .i64 k]) (by simp [results, Tryz.results195, go_sem, q0, q1]) rfl ?_
      exact ⟨_, rfl, rfl, HR2.out.only (((Below.refl N _).setCell hN1 _).setCell hN1 _), only_set2 HO2.out (Nat.le_refl _) _ _⟩
set_option maxHeartbeats 4000000 in
set_option maxRecDepth 20000 in
/-- (*jdl.reader).lock -/
theorem lock_any {w : World} {R : Nat} {E d : Int} {B N : Nat} {ws : List Tk} (h : Rdr w R E d B N ws) : Calls Tryz.prog 105 #[.pointer (some ⟨R, 0, none⟩)] w (PE R E d B N (nameP E ws) VLock w) := by
  obtain ⟨hN1, hN2⟩ := h.n
  have HN : Hid (∀ o, _) := hide (fun o => name_any (h.below (below_new4 o)))
  have HRES : Hid ((w.alloc (.cells #[.string ⟨#[]⟩, .int .i64 0, .bool false] 32)).heap[w.heap.size]? = some (.cells #[.string ⟨#[]⟩, .int .i64 0, .bool false] 32 (0, 0))) := heap_alloc_new w _
  have HOA : Hid (Only (· = R) w (w.alloc (.cells #[.string ⟨#[]⟩, .int .i64 0, .bool false] 32))) := Only.alloc _ _ _
  clear h
  generalize nameP E ws = q at *
  cases q with
  | error f =>
    unfold PE Ends at HN
    unfold PE Ends
    simp only at HN ⊢
    go_enter Tryz.func105, Tryz.ntmps105
    go_wp2_with fail
    refine (HN.out _).mono ?_
    rintro e w1 ⟨rfl, ho⟩
    have HO := hide (HOA.out.trans ho (fun _ _ h => h))
    clear ho
    go_wp2
    exact ⟨rfl, rfl, HO.out⟩
  | ok p =>
    obtain ⟨n, r⟩ := p
    unfold PE Ends VS at HN
    unfold PE Ends VLock
    simp only at HN ⊢
    go_enter Tryz.func105, Tryz.ntmps105
    go_wp2_with fail
    refine (HN.out _).mono ?_
    rintro e w2 ⟨v, rfl, rfl, hr, ho⟩
    have HO2 := hide (HOA.out.trans ho (fun _ _ h => h))
    have HR2 := hide hr
    have hres := heap_only HRES.out ho (by omega)
    have q0 : w2.cell? ⟨w.heap.size, 0, none⟩ = some (.string ⟨#[]⟩) := by rw [cell_of hres]; rfl
    have f0 : w2.frozen? ⟨w.heap.size, 0, none⟩ = false := frozen_of hres
    have q1 : w2.cell? ⟨w.heap.size, 1, none⟩ = some (.int .i64 0) := by rw [cell_of hres]; rfl
    have f1 : w2.frozen? ⟨w.heap.size, 1, none⟩ = false := frozen_of hres
    have q2 : w2.cell? ⟨w.heap.size, 2, none⟩ = some (.bool false) := by rw [cell_of hres]; rfl
    have f2 : w2.frozen? ⟨w.heap.size, 2, none⟩ = false := frozen_of hres
    clear ho hr hres
    go_wp2
    refine bodyPost_ret (v := .agg #[.string n, .int .i64 0, .bool true]) (by simp [results, Tryz.results105, go_sem, q0, q1, q2]) rfl ?_
    exact ⟨_, rfl, rfl, HR2.out.only ((((Below.refl N _).setCell hN1 _).setCell hN1 _).setCell hN1 _), only_set3 HO2.out (Nat.le_refl _) _ _ _⟩
end Go.Proofs.YtkpgfhapffijkaaGreatDoor

/- Package jdl: what stands between a first word and its end, at structs. Written by gens.py. -/
namespace Go.Proofs.YtkpgfhapffijkaaGreatDoor
open Go.ChangeShapes Go.WideShapes Go.ChangeAt Go.RowKit Go.DsMem Go.DsLx Go.DsJd Go.DsMk
set_option linter.unusedVariables false
set_option maxHeartbeats 4000000 in
set_option maxRecDepth 20000 in
/-- jdl.said[jdl.Res] -/
theorem saidRes {w : World} {R : Nat} {E d : Int} {B N : Nat} {t : Tk} {r : List Tk} {α : Type} (h : Rdr w R E d B N (t :: r)) (K : Nat) (first cap : Array Value) (part : List Tk → Except Fl (α × List Tk)) (V : World → α → Value → World → Prop)
    (hcf : CF K) (hV : ∀ wA a v w1, V wA a v w1 → ∃ (n : ByteArray) (k : Int) (b : Bool), v = .agg #[.string n, .int .i64 k, .bool b]) (hS : ∀ wA a v w1 w2, wA.heap.size = w.heap.size + 1 → V wA a v w1 → Only (fun k => k = R ∨ k = w.heap.size) w1 w2 → V w a v w2) (hA : ∀ wA wB a v w1, wA.heap.size ≤ wB.heap.size → V wB a v w1 → V wA a v w1)
    (hp : ∀ w, Rdr w R E d B N r → Calls Tryz.prog K (first ++ cap) w (PE R E d B N (part r) V w)) :
    Calls Tryz.prog 103 #[.pointer (some ⟨R, 0, none⟩), .func (.func K) first cap] w (PE R E d B N (thenP E ⟨#[59]⟩ (part r)) V w) := by
  obtain ⟨hN1, hN2⟩ := h.n
  have HS : Hid (∀ o, _) := hide (fun o => skip_any (h.below (below_new4 o)))
  have HP := hide hp
  have HV := hide hV
  have HST := hide hS
  have HA := hide hA
  have hcf' := hcf (first ++ cap)
  have HM := hide (fun (w : World) (r : List Tk) (h : Rdr w R E d B N r) => must_any ⟨#[59]⟩ h (by decide))
  have HRES : Hid ((w.alloc (.cells #[.string ⟨#[]⟩, .int .i64 0, .bool false] 32)).heap[w.heap.size]? = some (.cells #[.string ⟨#[]⟩, .int .i64 0, .bool false] 32 (0, 0))) := heap_alloc_new w _
  have HOA : Hid (Only (· = R) w (w.alloc (.cells #[.string ⟨#[]⟩, .int .i64 0, .bool false] 32))) := Only.alloc _ _ _
  have hzA : (w.alloc (.cells #[.string ⟨#[]⟩, .int .i64 0, .bool false] 32)).heap.size = w.heap.size + 1 := by simp
  clear h hp hV hS hA hcf
  generalize part r = q at *
  cases q with
  | error f =>
    unfold PE Ends at HP
    unfold PE Ends thenP
    simp only at HP ⊢
    go_enter Tryz.func103, Tryz.ntmps103
    go_wp2_with fail
    refine (HS.out _).mono ?_
    rintro e w1 ⟨rfl, hr, ho⟩
    have HR := hide hr
    have HO := hide (HOA.out.trans ho (fun _ _ h => h))
    clear hr ho
    go_wp2_with fail
    refine (HP.out w1 HR.out).mono ?_
    rintro e w2 ⟨rfl, ho2⟩
    have HO2 := hide (HO.out.trans ho2 (fun _ _ h => h))
    clear ho2
    go_wp2
    exact ⟨rfl, rfl, HO2.out⟩
  | ok p =>
    obtain ⟨a, r'⟩ := p
    have e : thenP E ⟨#[59]⟩ (.ok (a, r')) = (match mustP E ⟨#[59]⟩ r' with | .error f => .error f | .ok r2 => .ok (a, r2)) := rfl
    rw [e]
    have HM2 := hide (fun (w : World) h => HM.out w r' h)
    clear HM e
    unfold PE Ends at HP
    simp only at HP
    generalize mustP E ⟨#[59]⟩ r' = qm at *
    go_enter Tryz.func103, Tryz.ntmps103
    go_wp2_with fail
    refine (HS.out _).mono ?_
    rintro e w1 ⟨rfl, hr, ho⟩
    have HR := hide hr
    have HO := hide (HOA.out.trans ho (fun _ _ h => h))
    have hs1 := ho.size
    have HRES1 := hide (heap_only HRES.out ho (by omega))
    clear hr ho
    go_wp2_with fail
    refine (HP.out w1 HR.out).mono ?_
    rintro e w2 ⟨v, rfl, hv, hr2, ho2⟩
    obtain ⟨n, k, b, rfl⟩ := HV.out _ _ _ _ hv
    have hv' := HA.out (w.alloc (.cells #[.string ⟨#[]⟩, .int .i64 0, .bool false] 32)) w1 _ _ _ (by omega) hv
    have HVA := hide hv'
    have HR2 := hide hr2
    have HO2 := hide (HO.out.trans ho2 (fun _ _ h => h))
    have hs2 := ho2.size
    have HRES2 := hide (heap_only HRES1.out ho2 (by omega))
    clear hr2 ho2 hv hv'
    go_wp2_with fail
    refine (HM2.out _ (HR2.out.below (below_new4 _))).mono ?_
    intro e w3 hz
    cases qm with
    | error f =>
      obtain ⟨rfl, ho3⟩ := hz
      have HO3 := hide ((HO2.out.trans (Only.alloc _ _ _) (fun _ _ h => h)).trans ho3 (fun _ _ h => h))
      clear ho3
      go_wp2
      exact ⟨rfl, rfl, HO3.out⟩
    | ok r2 =>
      obtain ⟨rfl, hr3, ho3⟩ := hz
      have hbox : w3.heap[w2.heap.size]? = some (.cells #[.string n, .int .i64 k, .bool b] 32 (0, 0)) := heap_only (heap_alloc_new w2 _) ho3 (by omega)
      have hres3 : w3.heap[w.heap.size]? = some (.cells #[.string ⟨#[]⟩, .int .i64 0, .bool false] 32 (0, 0)) := heap_only (heap_keep' HRES2.out) ho3 (by omega)
      have z0 : w3.cell? ⟨w2.heap.size, 0, none⟩ = some (.string n) := by rw [cell_of hbox]; rfl
      have q0 : w3.cell? ⟨w.heap.size, 0, none⟩ = some (.string ⟨#[]⟩) := by rw [cell_of hres3]; rfl
      have f0 : w3.frozen? ⟨w.heap.size, 0, none⟩ = false := frozen_of hres3
      have z1 : w3.cell? ⟨w2.heap.size, 1, none⟩ = some (.int .i64 k) := by rw [cell_of hbox]; rfl
      have q1 : w3.cell? ⟨w.heap.size, 1, none⟩ = some (.int .i64 0) := by rw [cell_of hres3]; rfl
      have f1 : w3.frozen? ⟨w.heap.size, 1, none⟩ = false := frozen_of hres3
      have z2 : w3.cell? ⟨w2.heap.size, 2, none⟩ = some (.bool b) := by rw [cell_of hbox]; rfl
      have q2 : w3.cell? ⟨w.heap.size, 2, none⟩ = some (.bool false) := by rw [cell_of hres3]; rfl
      have f2 : w3.frozen? ⟨w.heap.size, 2, none⟩ = false := frozen_of hres3
      have HR3 := hide hr3
      have hW1 : Only (· = R) w2 w3 := (Only.alloc _ _ _).trans ho3 (fun _ _ h => h)
      have HW1 := hide hW1
      have HO3 := hide (HO2.out.trans hW1 (fun _ _ h => h))
      clear hr3 ho3 hbox hres3 hW1
      go_wp2
      refine bodyPost_ret (v := .agg #[.string n, .int .i64 k, .bool b]) (by simp [results, Tryz.results103, go_sem, q0, q1, q2]) rfl ?_
      have hW : Only (fun k => k = R ∨ k = w.heap.size) w2 _ := (((HW1.out.mono (fun _ _ e => .inl e)).trans (Only.set _ w.heap.size 0 (.string n)) (fun _ _ e => .inr e)).trans (Only.set _ w.heap.size 1 (.int .i64 k)) (fun _ _ e => .inr e)).trans (Only.set _ w.heap.size 2 (.bool b)) (fun _ _ e => .inr e)
      exact ⟨_, rfl, HST.out _ _ _ _ _ hzA HVA.out hW, HR3.out.only ((((Below.refl N _).setCell hN1 _).setCell hN1 _).setCell hN1 _), only_set3 HO3.out (Nat.le_refl _) _ _ _⟩
set_option maxHeartbeats 4000000 in
set_option maxRecDepth 20000 in
/-- jdl.said[jdl.Need] -/
theorem saidNeed {w : World} {R : Nat} {E d : Int} {B N : Nat} {t : Tk} {r : List Tk} {α : Type} (h : Rdr w R E d B N (t :: r)) (K : Nat) (first cap : Array Value) (part : List Tk → Except Fl (α × List Tk)) (V : World → α → Value → World → Prop)
    (hcf : CF K) (hV : ∀ wA a v w1, V wA a v w1 → ∃ (n : ByteArray) (k : Int) (b : Int), v = .agg #[.string n, .int .i64 k, .int .i64 b]) (hS : ∀ wA a v w1 w2, wA.heap.size = w.heap.size + 1 → V wA a v w1 → Only (fun k => k = R ∨ k = w.heap.size) w1 w2 → V w a v w2) (hA : ∀ wA wB a v w1, wA.heap.size ≤ wB.heap.size → V wB a v w1 → V wA a v w1)
    (hp : ∀ w, Rdr w R E d B N r → Calls Tryz.prog K (first ++ cap) w (PE R E d B N (part r) V w)) :
    Calls Tryz.prog 167 #[.pointer (some ⟨R, 0, none⟩), .func (.func K) first cap] w (PE R E d B N (thenP E ⟨#[59]⟩ (part r)) V w) := by
  obtain ⟨hN1, hN2⟩ := h.n
  have HS : Hid (∀ o, _) := hide (fun o => skip_any (h.below (below_new4 o)))
  have HP := hide hp
  have HV := hide hV
  have HST := hide hS
  have HA := hide hA
  have hcf' := hcf (first ++ cap)
  have HM := hide (fun (w : World) (r : List Tk) (h : Rdr w R E d B N r) => must_any ⟨#[59]⟩ h (by decide))
  have HRES : Hid ((w.alloc (.cells #[.string ⟨#[]⟩, .int .i64 0, .int .i64 0] 58)).heap[w.heap.size]? = some (.cells #[.string ⟨#[]⟩, .int .i64 0, .int .i64 0] 58 (0, 0))) := heap_alloc_new w _
  have HOA : Hid (Only (· = R) w (w.alloc (.cells #[.string ⟨#[]⟩, .int .i64 0, .int .i64 0] 58))) := Only.alloc _ _ _
  have hzA : (w.alloc (.cells #[.string ⟨#[]⟩, .int .i64 0, .int .i64 0] 58)).heap.size = w.heap.size + 1 := by simp
  clear h hp hV hS hA hcf
  generalize part r = q at *
  cases q with
  | error f =>
    unfold PE Ends at HP
    unfold PE Ends thenP
    simp only at HP ⊢
    go_enter Tryz.func167, Tryz.ntmps167
    go_wp2_with fail
    refine (HS.out _).mono ?_
    rintro e w1 ⟨rfl, hr, ho⟩
    have HR := hide hr
    have HO := hide (HOA.out.trans ho (fun _ _ h => h))
    clear hr ho
    go_wp2_with fail
    refine (HP.out w1 HR.out).mono ?_
    rintro e w2 ⟨rfl, ho2⟩
    have HO2 := hide (HO.out.trans ho2 (fun _ _ h => h))
    clear ho2
    go_wp2
    exact ⟨rfl, rfl, HO2.out⟩
  | ok p =>
    obtain ⟨a, r'⟩ := p
    have e : thenP E ⟨#[59]⟩ (.ok (a, r')) = (match mustP E ⟨#[59]⟩ r' with | .error f => .error f | .ok r2 => .ok (a, r2)) := rfl
    rw [e]
    have HM2 := hide (fun (w : World) h => HM.out w r' h)
    clear HM e
    unfold PE Ends at HP
    simp only at HP
    generalize mustP E ⟨#[59]⟩ r' = qm at *
    go_enter Tryz.func167, Tryz.ntmps167
    go_wp2_with fail
    refine (HS.out _).mono ?_
    rintro e w1 ⟨rfl, hr, ho⟩
    have HR := hide hr
    have HO := hide (HOA.out.trans ho (fun _ _ h => h))
    have hs1 := ho.size
    have HRES1 := hide (heap_only HRES.out ho (by omega))
    clear hr ho
    go_wp2_with fail
    refine (HP.out w1 HR.out).mono ?_
    rintro e w2 ⟨v, rfl, hv, hr2, ho2⟩
    obtain ⟨n, k, b, rfl⟩ := HV.out _ _ _ _ hv
    have hv' := HA.out (w.alloc (.cells #[.string ⟨#[]⟩, .int .i64 0, .int .i64 0] 58)) w1 _ _ _ (by omega) hv
    have HVA := hide hv'
    have HR2 := hide hr2
    have HO2 := hide (HO.out.trans ho2 (fun _ _ h => h))
    have hs2 := ho2.size
    have HRES2 := hide (heap_only HRES1.out ho2 (by omega))
    clear hr2 ho2 hv hv'
    go_wp2_with fail
    refine (HM2.out _ (HR2.out.below (below_new4 _))).mono ?_
    intro e w3 hz
    cases qm with
    | error f =>
      obtain ⟨rfl, ho3⟩ := hz
      have HO3 := hide ((HO2.out.trans (Only.alloc _ _ _) (fun _ _ h => h)).trans ho3 (fun _ _ h => h))
      clear ho3
      go_wp2
      exact ⟨rfl, rfl, HO3.out⟩
    | ok r2 =>
      obtain ⟨rfl, hr3, ho3⟩ := hz
      have hbox : w3.heap[w2.heap.size]? = some (.cells #[.string n, .int .i64 k, .int .i64 b] 58 (0, 0)) := heap_only (heap_alloc_new w2 _) ho3 (by omega)
      have hres3 : w3.heap[w.heap.size]? = some (.cells #[.string ⟨#[]⟩, .int .i64 0, .int .i64 0] 58 (0, 0)) := heap_only (heap_keep' HRES2.out) ho3 (by omega)
      have z0 : w3.cell? ⟨w2.heap.size, 0, none⟩ = some (.string n) := by rw [cell_of hbox]; rfl
      have q0 : w3.cell? ⟨w.heap.size, 0, none⟩ = some (.string ⟨#[]⟩) := by rw [cell_of hres3]; rfl
      have f0 : w3.frozen? ⟨w.heap.size, 0, none⟩ = false := frozen_of hres3
      have z1 : w3.cell? ⟨w2.heap.size, 1, none⟩ = some (.int .i64 k) := by rw [cell_of hbox]; rfl
      have q1 : w3.cell? ⟨w.heap.size, 1, none⟩ = some (.int .i64 0) := by rw [cell_of hres3]; rfl
      have f1 : w3.frozen? ⟨w.heap.size, 1, none⟩ = false := frozen_of hres3
      have z2 : w3.cell? ⟨w2.heap.size, 2, none⟩ = some (.int .i64 b) := by rw [cell_of hbox]; rfl
      have q2 : w3.cell? ⟨w.heap.size, 2, none⟩ = some (.int .i64 0) := by rw [cell_of hres3]; rfl
      have f2 : w3.frozen? ⟨w.heap.size, 2, none⟩ = false := frozen_of hres3
      have HR3 := hide hr3
      have hW1 : Only (· = R) w2 w3 := (Only.alloc _ _ _).trans ho3 (fun _ _ h => h)
      have HW1 := hide hW1
      have HO3 := hide (HO2.out.trans hW1 (fun _ _ h => h))
      clear hr3 ho3 hbox hres3 hW1
      go_wp2
      refine bodyPost_ret (v := .agg #[.string n, .int .i64 k, .int .i64 b]) (by simp [results, Tryz.results167, go_sem, q0, q1, q2]) rfl ?_
      have hW : Only (fun k => k = R ∨ k = w.heap.size) w2 _ := (((HW1.out.mono (fun _ _ e => .inl e)).trans (Only.set _ w.heap.size 0 (.string n)) (fun _ _ e => .inr e)).trans (Only.set _ w.heap.size 1 (.int .i64 k)) (fun _ _ e => .inr e)).trans (Only.set _ w.heap.size 2 (.int .i64 b)) (fun _ _ e => .inr e)
      exact ⟨_, rfl, HST.out _ _ _ _ _ hzA HVA.out hW, HR3.out.only ((((Below.refl N _).setCell hN1 _).setCell hN1 _).setCell hN1 _), only_set3 HO3.out (Nat.le_refl _) _ _ _⟩
set_option maxHeartbeats 4000000 in
set_option maxRecDepth 20000 in
/-- jdl.said[[2]int64] -/
theorem saidWin {w : World} {R : Nat} {E d : Int} {B N : Nat} {t : Tk} {r : List Tk} {α : Type} (h : Rdr w R E d B N (t :: r)) (K : Nat) (first cap : Array Value) (part : List Tk → Except Fl (α × List Tk)) (V : World → α → Value → World → Prop)
    (hcf : CF K) (hV : ∀ wA a v w1, V wA a v w1 → ∃ (n : Int) (k : Int), v = .agg #[.int .i64 n, .int .i64 k]) (hS : ∀ wA a v w1 w2, wA.heap.size = w.heap.size + 1 → V wA a v w1 → Only (fun k => k = R ∨ k = w.heap.size) w1 w2 → V w a v w2) (hA : ∀ wA wB a v w1, wA.heap.size ≤ wB.heap.size → V wB a v w1 → V wA a v w1)
    (hp : ∀ w, Rdr w R E d B N r → Calls Tryz.prog K (first ++ cap) w (PE R E d B N (part r) V w)) :
    Calls Tryz.prog 194 #[.pointer (some ⟨R, 0, none⟩), .func (.func K) first cap] w (PE R E d B N (thenP E ⟨#[59]⟩ (part r)) V w) := by
  obtain ⟨hN1, hN2⟩ := h.n
  have HS : Hid (∀ o, _) := hide (fun o => skip_any (h.below (below_new4 o)))
  have HP := hide hp
  have HV := hide hV
  have HST := hide hS
  have HA := hide hA
  have hcf' := hcf (first ++ cap)
  have HM := hide (fun (w : World) (r : List Tk) (h : Rdr w R E d B N r) => must_any ⟨#[59]⟩ h (by decide))
  have HRES : Hid ((w.alloc (.cells #[.int .i64 0, .int .i64 0] 291)).heap[w.heap.size]? = some (.cells #[.int .i64 0, .int .i64 0] 291 (0, 0))) := heap_alloc_new w _
  have HOA : Hid (Only (· = R) w (w.alloc (.cells #[.int .i64 0, .int .i64 0] 291))) := Only.alloc _ _ _
  have hzA : (w.alloc (.cells #[.int .i64 0, .int .i64 0] 291)).heap.size = w.heap.size + 1 := by simp
  clear h hp hV hS hA hcf
  generalize part r = q at *
  cases q with
  | error f =>
    unfold PE Ends at HP
    unfold PE Ends thenP
    simp only at HP ⊢
    go_enter Tryz.func194, Tryz.ntmps194
    go_wp2_with fail
    refine (HS.out _).mono ?_
    rintro e w1 ⟨rfl, hr, ho⟩
    have HR := hide hr
    have HO := hide (HOA.out.trans ho (fun _ _ h => h))
    clear hr ho
    go_wp2_with fail
    refine (HP.out w1 HR.out).mono ?_
    rintro e w2 ⟨rfl, ho2⟩
    have HO2 := hide (HO.out.trans ho2 (fun _ _ h => h))
    clear ho2
    go_wp2
    exact ⟨rfl, rfl, HO2.out⟩
  | ok p =>
    obtain ⟨a, r'⟩ := p
    have e : thenP E ⟨#[59]⟩ (.ok (a, r')) = (match mustP E ⟨#[59]⟩ r' with | .error f => .error f | .ok r2 => .ok (a, r2)) := rfl
    rw [e]
    have HM2 := hide (fun (w : World) h => HM.out w r' h)
    clear HM e
    unfold PE Ends at HP
    simp only at HP
    generalize mustP E ⟨#[59]⟩ r' = qm at *
    go_enter Tryz.func194, Tryz.ntmps194
    go_wp2_with fail
    refine (HS.out _).mono ?_
    rintro e w1 ⟨rfl, hr, ho⟩
    have HR := hide hr
    have HO := hide (HOA.out.trans ho (fun _ _ h => h))
    have hs1 := ho.size
    have HRES1 := hide (heap_only HRES.out ho (by omega))
    clear hr ho
    go_wp2_with fail
    refine (HP.out w1 HR.out).mono ?_
    rintro e w2 ⟨v, rfl, hv, hr2, ho2⟩
    obtain ⟨n, k, rfl⟩ := HV.out _ _ _ _ hv
    have hv' := HA.out (w.alloc (.cells #[.int .i64 0, .int .i64 0] 291)) w1 _ _ _ (by omega) hv
    have HVA := hide hv'
    have HR2 := hide hr2
    have HO2 := hide (HO.out.trans ho2 (fun _ _ h => h))
    have hs2 := ho2.size
    have HRES2 := hide (heap_only HRES1.out ho2 (by omega))
    clear hr2 ho2 hv hv'
    go_wp2_with fail
    refine (HM2.out _ (HR2.out.below (below_new4 _))).mono ?_
    intro e w3 hz
    cases qm with
    | error f =>
      obtain ⟨rfl, ho3⟩ := hz
      have HO3 := hide ((HO2.out.trans (Only.alloc _ _ _) (fun _ _ h => h)).trans ho3 (fun _ _ h => h))
      clear ho3
      go_wp2
      exact ⟨rfl, rfl, HO3.out⟩
    | ok r2 =>
      obtain ⟨rfl, hr3, ho3⟩ := hz
      have hbox : w3.heap[w2.heap.size]? = some (.cells #[.int .i64 n, .int .i64 k] 291 (0, 0)) := heap_only (heap_alloc_new w2 _) ho3 (by omega)
      have hres3 : w3.heap[w.heap.size]? = some (.cells #[.int .i64 0, .int .i64 0] 291 (0, 0)) := heap_only (heap_keep' HRES2.out) ho3 (by omega)
      have z0 : w3.cell? ⟨w2.heap.size, 0, none⟩ = some (.int .i64 n) := by rw [cell_of hbox]; rfl
      have q0 : w3.cell? ⟨w.heap.size, 0, none⟩ = some (.int .i64 0) := by rw [cell_of hres3]; rfl
      have f0 : w3.frozen? ⟨w.heap.size, 0, none⟩ = false := frozen_of hres3
      have z1 : w3.cell? ⟨w2.heap.size, 1, none⟩ = some (.int .i64 k) := by rw [cell_of hbox]; rfl
      have q1 : w3.cell? ⟨w.heap.size, 1, none⟩ = some (.int .i64 0) := by rw [cell_of hres3]; rfl
      have f1 : w3.frozen? ⟨w.heap.size, 1, none⟩ = false := frozen_of hres3
      have HR3 := hide hr3
      have hW1 : Only (· = R) w2 w3 := (Only.alloc _ _ _).trans ho3 (fun _ _ h => h)
      have HW1 := hide hW1
      have HO3 := hide (HO2.out.trans hW1 (fun _ _ h => h))
      clear hr3 ho3 hbox hres3 hW1
      go_wp2
      refine bodyPost_ret (v := .agg #[.int .i64 n, .int .i64 k]) (by simp [results, Tryz.results194, go_sem, q0, q1]) rfl ?_
      have hW : Only (fun k => k = R ∨ k = w.heap.size) w2 _ := ((HW1.out.mono (fun _ _ e => .inl e)).trans (Only.set _ w.heap.size 0 (.int .i64 n)) (fun _ _ e => .inr e)).trans (Only.set _ w.heap.size 1 (.int .i64 k)) (fun _ _ e => .inr e)
      exact ⟨_, rfl, HST.out _ _ _ _ _ hzA HVA.out hW, HR3.out.only (((Below.refl N _).setCell hN1 _).setCell hN1 _), only_set2 HO3.out (Nat.le_refl _) _ _⟩
set_option maxHeartbeats 4000000 in
set_option maxRecDepth 20000 in
/-- jdl.said[cal.Node] -/
theorem saidNode {w : World} {R : Nat} {E d : Int} {B N : Nat} {t : Tk} {r : List Tk} {α : Type} (h : Rdr w R E d B N (t :: r)) (K : Nat) (first cap : Array Value) (part : List Tk → Except Fl (α × List Tk)) (V : World → α → Value → World → Prop)
    (hcf : CF K) (hV : ∀ wA a v w1, V wA a v w1 → ∃ (op : Int) (no : Option Addr) (nl : Nat) (nc : Nat) (ko : Option Addr) (kl : Nat) (kc : Nat) (nm : ByteArray), v = .agg #[.int .i64 op, .slice no nl nc, .slice ko kl kc, .string nm]) (hS : ∀ wA a v w1 w2, wA.heap.size = w.heap.size + 1 → V wA a v w1 → Only (fun k => k = R ∨ k = w.heap.size) w1 w2 → V w a v w2) (hA : ∀ wA wB a v w1, wA.heap.size ≤ wB.heap.size → V wB a v w1 → V wA a v w1)
    (hp : ∀ w, Rdr w R E d B N r → Calls Tryz.prog K (first ++ cap) w (PE R E d B N (part r) V w)) :
    Calls Tryz.prog 191 #[.pointer (some ⟨R, 0, none⟩), .func (.func K) first cap] w (PE R E d B N (thenP E ⟨#[59]⟩ (part r)) V w) := by
  obtain ⟨hN1, hN2⟩ := h.n
  have HS : Hid (∀ o, _) := hide (fun o => skip_any (h.below (below_new4 o)))
  have HP := hide hp
  have HV := hide hV
  have HST := hide hS
  have HA := hide hA
  have hcf' := hcf (first ++ cap)
  have HM := hide (fun (w : World) (r : List Tk) (h : Rdr w R E d B N r) => must_any ⟨#[59]⟩ h (by decide))
  have HRES : Hid ((w.alloc (.cells #[.int .i64 0, .slice none 0 0, .slice none 0 0, .string ⟨#[]⟩] 49)).heap[w.heap.size]? = some (.cells #[.int .i64 0, .slice none 0 0, .slice none 0 0, .string ⟨#[]⟩] 49 (0, 0))) := heap_alloc_new w _
  have HOA : Hid (Only (· = R) w (w.alloc (.cells #[.int .i64 0, .slice none 0 0, .slice none 0 0, .string ⟨#[]⟩] 49))) := Only.alloc _ _ _
  have hzA : (w.alloc (.cells #[.int .i64 0, .slice none 0 0, .slice none 0 0, .string ⟨#[]⟩] 49)).heap.size = w.heap.size + 1 := by simp
  clear h hp hV hS hA hcf
  generalize part r = q at *
  cases q with
  | error f =>
    unfold PE Ends at HP
    unfold PE Ends thenP
    simp only at HP ⊢
    go_enter Tryz.func191, Tryz.ntmps191
    go_wp2_with fail
    refine (HS.out _).mono ?_
    rintro e w1 ⟨rfl, hr, ho⟩
    have HR := hide hr
    have HO := hide (HOA.out.trans ho (fun _ _ h => h))
    clear hr ho
    go_wp2_with fail
    refine (HP.out w1 HR.out).mono ?_
    rintro e w2 ⟨rfl, ho2⟩
    have HO2 := hide (HO.out.trans ho2 (fun _ _ h => h))
    clear ho2
    go_wp2
    exact ⟨rfl, rfl, HO2.out⟩
  | ok p =>
    obtain ⟨a, r'⟩ := p
    have e : thenP E ⟨#[59]⟩ (.ok (a, r')) = (match mustP E ⟨#[59]⟩ r' with | .error f => .error f | .ok r2 => .ok (a, r2)) := rfl
    rw [e]
    have HM2 := hide (fun (w : World) h => HM.out w r' h)
    clear HM e
    unfold PE Ends at HP
    simp only at HP
    generalize mustP E ⟨#[59]⟩ r' = qm at *
    go_enter Tryz.func191, Tryz.ntmps191
    go_wp2_with fail
    refine (HS.out _).mono ?_
    rintro e w1 ⟨rfl, hr, ho⟩
    have HR := hide hr
    have HO := hide (HOA.out.trans ho (fun _ _ h => h))
    have hs1 := ho.size
    have HRES1 := hide (heap_only HRES.out ho (by omega))
    clear hr ho
    go_wp2_with fail
    refine (HP.out w1 HR.out).mono ?_
    rintro e w2 ⟨v, rfl, hv, hr2, ho2⟩
    obtain ⟨op, no, nl, nc, ko, kl, kc, nm, rfl⟩ := HV.out _ _ _ _ hv
    have hv' := HA.out (w.alloc (.cells #[.int .i64 0, .slice none 0 0, .slice none 0 0, .string ⟨#[]⟩] 49)) w1 _ _ _ (by omega) hv
    have HVA := hide hv'
    have HR2 := hide hr2
    have HO2 := hide (HO.out.trans ho2 (fun _ _ h => h))
    have hs2 := ho2.size
    have HRES2 := hide (heap_only HRES1.out ho2 (by omega))
    clear hr2 ho2 hv hv'
    go_wp2_with fail
    refine (HM2.out _ (HR2.out.below (below_new4 _))).mono ?_
    intro e w3 hz
    cases qm with
    | error f =>
      obtain ⟨rfl, ho3⟩ := hz
      have HO3 := hide ((HO2.out.trans (Only.alloc _ _ _) (fun _ _ h => h)).trans ho3 (fun _ _ h => h))
      clear ho3
      go_wp2
      exact ⟨rfl, rfl, HO3.out⟩
    | ok r2 =>
      obtain ⟨rfl, hr3, ho3⟩ := hz
      have hbox : w3.heap[w2.heap.size]? = some (.cells #[.int .i64 op, .slice no nl nc, .slice ko kl kc, .string nm] 49 (0, 0)) := heap_only (heap_alloc_new w2 _) ho3 (by omega)
      have hres3 : w3.heap[w.heap.size]? = some (.cells #[.int .i64 0, .slice none 0 0, .slice none 0 0, .string ⟨#[]⟩] 49 (0, 0)) := heap_only (heap_keep' HRES2.out) ho3 (by omega)
      have z0 : w3.cell? ⟨w2.heap.size, 0, none⟩ = some (.int .i64 op) := by rw [cell_of hbox]; rfl
      have q0 : w3.cell? ⟨w.heap.size, 0, none⟩ = some (.int .i64 0) := by rw [cell_of hres3]; rfl
      have f0 : w3.frozen? ⟨w.heap.size, 0, none⟩ = false := frozen_of hres3
      have z1 : w3.cell? ⟨w2.heap.size, 1, none⟩ = some (.slice no nl nc) := by rw [cell_of hbox]; rfl
      have q1 : w3.cell? ⟨w.heap.size, 1, none⟩ = some (.slice none 0 0) := by rw [cell_of hres3]; rfl
      have f1 : w3.frozen? ⟨w.heap.size, 1, none⟩ = false := frozen_of hres3
      have z2 : w3.cell? ⟨w2.heap.size, 2, none⟩ = some (.slice ko kl kc) := by rw [cell_of hbox]; rfl
      have q2 : w3.cell? ⟨w.heap.size, 2, none⟩ = some (.slice none 0 0) := by rw [cell_of hres3]; rfl
      have f2 : w3.frozen? ⟨w.heap.size, 2, none⟩ = false := frozen_of hres3
      have z3 : w3.cell? ⟨w2.heap.size, 3, none⟩ = some (.string nm) := by rw [cell_of hbox]; rfl
      have q3 : w3.cell? ⟨w.heap.size, 3, none⟩ = some (.string ⟨#[]⟩) := by rw [cell_of hres3]; rfl
      have f3 : w3.frozen? ⟨w.heap.size, 3, none⟩ = false := frozen_of hres3
      have HR3 := hide hr3
      have hW1 : Only (· = R) w2 w3 := (Only.alloc _ _ _).trans ho3 (fun _ _ h => h)
      have HW1 := hide hW1
      have HO3 := hide (HO2.out.trans hW1 (fun _ _ h => h))
      clear hr3 ho3 hbox hres3 hW1
      go_wp2
      refine bodyPost_ret (v := .agg #[.int .i64 op, .slice no nl nc, .slice ko kl kc, .string nm]) (by simp [results, Tryz.results191, go_sem, q0, q1, q2, q3]) rfl ?_
      have hW : Only (fun k => k = R ∨ k = w.heap.size) w2 _ := ((((HW1.out.mono (fun _ _ e => .inl e)).trans (Only.set _ w.heap.size 0 (.int .i64 op)) (fun _ _ e => .inr e)).trans (Only.set _ w.heap.size 1 (.slice no nl nc)) (fun _ _ e => .inr e)).trans (Only.set _ w.heap.size 2 (.slice ko kl kc)) (fun _ _ e => .inr e)).trans (Only.set _ w.heap.size 3 (.string nm)) (fun _ _ e => .inr e)
      exact ⟨_, rfl, HST.out _ _ _ _ _ hzA HVA.out hW, HR3.out.only (((((Below.refl N _).setCell hN1 _).setCell hN1 _).setCell hN1 _).setCell hN1 _), only_set4 HO3.out (Nat.le_refl _) _ _ _ _⟩
set_option maxHeartbeats 4000000 in
set_option maxRecDepth 20000 in
/-- jdl.said[jdl.Expr] -/
theorem saidExpr {w : World} {R : Nat} {E d : Int} {B N : Nat} {t : Tk} {r : List Tk} {α : Type} (h : Rdr w R E d B N (t :: r)) (K : Nat) (first cap : Array Value) (part : List Tk → Except Fl (α × List Tk)) (V : World → α → Value → World → Prop)
    (hcf : CF K) (hV : ∀ wA a v w1, V wA a v w1 → ∃ (op : Int) (nm : ByteArray) (wh : Int) (ko : Option Addr) (kl : Nat) (kc : Nat), v = .agg #[.int .i64 op, .string nm, .int .i64 wh, .slice ko kl kc]) (hS : ∀ wA a v w1 w2, wA.heap.size = w.heap.size + 1 → V wA a v w1 → Only (fun k => k = R ∨ k = w.heap.size) w1 w2 → V w a v w2) (hA : ∀ wA wB a v w1, wA.heap.size ≤ wB.heap.size → V wB a v w1 → V wA a v w1)
    (hp : ∀ w, Rdr w R E d B N r → Calls Tryz.prog K (first ++ cap) w (PE R E d B N (part r) V w)) :
    Calls Tryz.prog 196 #[.pointer (some ⟨R, 0, none⟩), .func (.func K) first cap] w (PE R E d B N (thenP E ⟨#[59]⟩ (part r)) V w) := by
  obtain ⟨hN1, hN2⟩ := h.n
  have HS : Hid (∀ o, _) := hide (fun o => skip_any (h.below (below_new4 o)))
  have HP := hide hp
  have HV := hide hV
  have HST := hide hS
  have HA := hide hA
  have hcf' := hcf (first ++ cap)
  have HM := hide (fun (w : World) (r : List Tk) (h : Rdr w R E d B N r) => must_any ⟨#[59]⟩ h (by decide))
  have HRES : Hid ((w.alloc (.cells #[.int .i64 0, .string ⟨#[]⟩, .int .i64 0, .slice none 0 0] 52)).heap[w.heap.size]? = some (.cells #[.int .i64 0, .string ⟨#[]⟩, .int .i64 0, .slice none 0 0] 52 (0, 0))) := heap_alloc_new w _
  have HOA : Hid (Only (· = R) w (w.alloc (.cells #[.int .i64 0, .string ⟨#[]⟩, .int .i64 0, .slice none 0 0] 52))) := Only.alloc _ _ _
  have hzA : (w.alloc (.cells #[.int .i64 0, .string ⟨#[]⟩, .int .i64 0, .slice none 0 0] 52)).heap.size = w.heap.size + 1 := by simp
  clear h hp hV hS hA hcf
  generalize part r = q at *
  cases q with
  | error f =>
    unfold PE Ends at HP
    unfold PE Ends thenP
    simp only at HP ⊢
    go_enter Tryz.func196, Tryz.ntmps196
    go_wp2_with fail
    refine (HS.out _).mono ?_
    rintro e w1 ⟨rfl, hr, ho⟩
    have HR := hide hr
    have HO := hide (HOA.out.trans ho (fun _ _ h => h))
    clear hr ho
    go_wp2_with fail
    refine (HP.out w1 HR.out).mono ?_
    rintro e w2 ⟨rfl, ho2⟩
    have HO2 := hide (HO.out.trans ho2 (fun _ _ h => h))
    clear ho2
    go_wp2
    exact ⟨rfl, rfl, HO2.out⟩
  | ok p =>
    obtain ⟨a, r'⟩ := p
    have e : thenP E ⟨#[59]⟩ (.ok (a, r')) = (match mustP E ⟨#[59]⟩ r' with | .error f => .error f | .ok r2 => .ok (a, r2)) := rfl
    rw [e]
    have HM2 := hide (fun (w : World) h => HM.out w r' h)
    clear HM e
    unfold PE Ends at HP
    simp only at HP
    generalize mustP E ⟨#[59]⟩ r' = qm at *
    go_enter Tryz.func196, Tryz.ntmps196
    go_wp2_with fail
    refine (HS.out _).mono ?_
    rintro e w1 ⟨rfl, hr, ho⟩
    have HR := hide hr
    have HO := hide (HOA.out.trans ho (fun _ _ h => h))
    have hs1 := ho.size
    have HRES1 := hide (heap_only HRES.out ho (by omega))
    clear hr ho
    go_wp2_with fail
    refine (HP.out w1 HR.out).mono ?_
    rintro e w2 ⟨v, rfl, hv, hr2, ho2⟩
    obtain ⟨op, nm, wh, ko, kl, kc, rfl⟩ := HV.out _ _ _ _ hv
    have hv' := HA.out (w.alloc (.cells #[.int .i64 0, .string ⟨#[]⟩, .int .i64 0, .slice none 0 0] 52)) w1 _ _ _ (by omega) hv
    have HVA := hide hv'
    have HR2 := hide hr2
    have HO2 := hide (HO.out.trans ho2 (fun _ _ h => h))
    have hs2 := ho2.size
    have HRES2 := hide (heap_only HRES1.out ho2 (by omega))
    clear hr2 ho2 hv hv'
    go_wp2_with fail
    refine (HM2.out _ (HR2.out.below (below_new4 _))).mono ?_
    intro e w3 hz
    cases qm with
    | error f =>
      obtain ⟨rfl, ho3⟩ := hz
      have HO3 := hide ((HO2.out.trans (Only.alloc _ _ _) (fun _ _ h => h)).trans ho3 (fun _ _ h => h))
      clear ho3
      go_wp2
      exact ⟨rfl, rfl, HO3.out⟩
    | ok r2 =>
      obtain ⟨rfl, hr3, ho3⟩ := hz
      have hbox : w3.heap[w2.heap.size]? = some (.cells #[.int .i64 op, .string nm, .int .i64 wh, .slice ko kl kc] 52 (0, 0)) := heap_only (heap_alloc_new w2 _) ho3 (by omega)
      have hres3 : w3.heap[w.heap.size]? = some (.cells #[.int .i64 0, .string ⟨#[]⟩, .int .i64 0, .slice none 0 0] 52 (0, 0)) := heap_only (heap_keep' HRES2.out) ho3 (by omega)
      have z0 : w3.cell? ⟨w2.heap.size, 0, none⟩ = some (.int .i64 op) := by rw [cell_of hbox]; rfl
      have q0 : w3.cell? ⟨w.heap.size, 0, none⟩ = some (.int .i64 0) := by rw [cell_of hres3]; rfl
      have f0 : w3.frozen? ⟨w.heap.size, 0, none⟩ = false := frozen_of hres3
      have z1 : w3.cell? ⟨w2.heap.size, 1, none⟩ = some (.string nm) := by rw [cell_of hbox]; rfl
      have q1 : w3.cell? ⟨w.heap.size, 1, none⟩ = some (.string ⟨#[]⟩) := by rw [cell_of hres3]; rfl
      have f1 : w3.frozen? ⟨w.heap.size, 1, none⟩ = false := frozen_of hres3
      have z2 : w3.cell? ⟨w2.heap.size, 2, none⟩ = some (.int .i64 wh) := by rw [cell_of hbox]; rfl
      have q2 : w3.cell? ⟨w.heap.size, 2, none⟩ = some (.int .i64 0) := by rw [cell_of hres3]; rfl
      have f2 : w3.frozen? ⟨w.heap.size, 2, none⟩ = false := frozen_of hres3
      have z3 : w3.cell? ⟨w2.heap.size, 3, none⟩ = some (.slice ko kl kc) := by rw [cell_of hbox]; rfl
      have q3 : w3.cell? ⟨w.heap.size, 3, none⟩ = some (.slice none 0 0) := by rw [cell_of hres3]; rfl
      have f3 : w3.frozen? ⟨w.heap.size, 3, none⟩ = false := frozen_of hres3
      have HR3 := hide hr3
      have hW1 : Only (· = R) w2 w3 := (Only.alloc _ _ _).trans ho3 (fun _ _ h => h)
      have HW1 := hide hW1
      have HO3 := hide (HO2.out.trans hW1 (fun _ _ h => h))
      clear hr3 ho3 hbox hres3 hW1
      go_wp2
      refine bodyPost_ret (v := .agg #[.int .i64 op, .string nm, .int .i64 wh, .slice ko kl kc]) (by simp [results, Tryz.results196, go_sem, q0, q1, q2, q3]) rfl ?_
      have hW : Only (fun k => k = R ∨ k = w.heap.size) w2 _ := ((((HW1.out.mono (fun _ _ e => .inl e)).trans (Only.set _ w.heap.size 0 (.int .i64 op)) (fun _ _ e => .inr e)).trans (Only.set _ w.heap.size 1 (.string nm)) (fun _ _ e => .inr e)).trans (Only.set _ w.heap.size 2 (.int .i64 wh)) (fun _ _ e => .inr e)).trans (Only.set _ w.heap.size 3 (.slice ko kl kc)) (fun _ _ e => .inr e)
      exact ⟨_, rfl, HST.out _ _ _ _ _ hzA HVA.out hW, HR3.out.only (((((Below.refl N _).setCell hN1 _).setCell hN1 _).setCell hN1 _).setCell hN1 _), only_set4 HO3.out (Nat.le_refl _) _ _ _ _⟩
end Go.Proofs.YtkpgfhapffijkaaGreatDoor

/- Package jdl: weekdays as bits. -/
namespace Go.Proofs.YtkpgfhapffijkaaGreatDoor
open Go.ChangeShapes Go.WideShapes Go.ChangeAt Go.RowKit Go.DsMem Go.DsLx Go.DsJd Go.DsMk
set_option linter.unusedVariables false
/-- the bits of weekdays -/
def bitN : List Int → Nat
  | [] => 0
  | a :: l => 2 ^ a.toNat ||| bitN l
theorem or_bits : ∀ (b : Fin 128) (k : Fin 7), bits BinOp.or IntKind.i64 (b.val : Int) (wrap64 (2 ^ k.val)) = ((b.val ||| 2 ^ k.val : Nat) : Int) ∧ (b.val ||| 2 ^ k.val) < 128 := by decide +kernel
theorem or_bit {b k : Nat} (hb : b < 128) (hk : k ≤ 6) : bits BinOp.or IntKind.i64 (b : Int) (wrap64 (2 ^ k)) = ((b ||| 2 ^ k : Nat) : Int) ∧ (b ||| 2 ^ k) < 128 := or_bits ⟨b, hb⟩ ⟨k, by omega⟩
theorem vn_nums {w W : World} {op : Int} {l : List Int} {g c : Nat} {nm : ByteArray} (hr : RdI W (.slice (some ⟨g, 0, none⟩) l.length c) l) (hl : l.length ≤ 100000) (hg : w.heap.size ≤ g) (hg2 : g < W.heap.size) : VN w (.mk op l [] nm) (NVal.val ⟨op, some ⟨g, 0, none⟩, l.length, c, none, 0, 0, nm⟩) W :=
  ⟨_, rfl, .mk op l [] nm (some ⟨g, 0, none⟩) c none 0 0 (fun _ => ⟨0, none, 0, 0, none, 0, 0, ⟨#[]⟩⟩) hr (fun a e => by cases e; exact ⟨hg, hg2⟩) (by omega) (by simp) (by simp) (fun h => by simp at h) (fun h => by simp at h) (fun j hj => by simp at hj) (fun j hj => by simp at hj)⟩
set_option maxHeartbeats 4000000 in
set_option maxRecDepth 20000 in
theorem weekNode_any {w0 w : World} {l : List Int} {v : Value} (h : VL w0 l v w) (hl : l.length ≤ 8192) (hd : ∀ a ∈ l, 0 ≤ a ∧ a ≤ 6) : Calls Tryz.prog 227 #[v] w fun e w' => ∃ v', e = .returned v' ∧ VN w (.mk 1 [(bitN l : Int)] [] ⟨#[]⟩) v' w' ∧ Below w.heap.size w w' := by
  obtain ⟨uo, uc, rfl, hrow⟩ := h
  have HROW := hide hrow
  have HD := hide hd
  clear hd
  go_enter Tryz.func227, Tryz.ntmps227
  go_wp2
  go_loopw [3, 8] (fun tb ti wr => ∃ (i b : Nat), i ≤ l.length ∧ tb = .int .i64 b ∧ b < 128 ∧ ti = .int .i64 i ∧ wr = w.alloc (.cells #[.int .i64 0, .slice none 0 0, .slice none 0 0, .string ⟨#[]⟩] 49) ∧ b ||| bitN (l.drop i) = bitN l) (fun _ ti _ => l.length - (intOf ti).toNat)
  case atStart => exact ⟨0, 0, Nat.zero_le _, rfl, by decide, rfl, rfl, by simp⟩
  case round =>
    obtain ⟨i, b, hi, rfl, hb, rfl, rfl, hbit⟩ := hrel
    by_cases hlt : i < l.length
    · obtain ⟨a, ha⟩ : ∃ a, l[i]? = some a := ⟨_, List.getElem?_eq_getElem hlt⟩
      have hda := HD.out a (List.mem_of_getElem? ha)
      have hg : ∃ g, uo = some ⟨g, 0, none⟩ ∧ l.length ≤ uc := by
        rcases HROW.out.2 with ⟨_, h0⟩ | ⟨g, cap, cur, e, _, hg, hc, _⟩
        · omega
        · simp only [Value.slice.injEq] at e
          obtain ⟨rfl, -, rfl⟩ := e
          exact ⟨g, rfl, hc⟩
      obtain ⟨g, rfl, hc⟩ := hg
      have c0 : w.cell? ⟨g, i, none⟩ = some (.int .i64 a) := by
        have := HROW.out.cells (g := g) rfl i (.int .i64 a) (by rw [List.getElem?_map, ha]; rfl)
        rw [add_mk, Nat.zero_add] at this
        exact this
      have x0 := fun ob : Obj => Below.keeps (below_new4 ob) (Nat.le_refl _) c0
      obtain ⟨k, rfl⟩ : ∃ k : Nat, a = (k : Int) := ⟨a.toNat, by omega⟩
      clear c0
      obtain ⟨ob1, ob2⟩ := or_bit hb (show k ≤ 6 by omega)
      have OB1 := hide ob1
      have hdr : l.drop i = (k : Int) :: l.drop (i + 1) := by
        obtain ⟨h1, h2⟩ := List.getElem?_eq_some_iff.1 ha
        rw [List.drop_eq_getElem_cons h1, h2]
      have HBIT : Hid ((b ||| 2 ^ k) ||| bitN (l.drop (i + 1)) = bitN l) := by
        refine hide ?_
        rw [← hbit, hdr, bitN, Nat.or_assoc]; simp
      clear ob1 hbit hdr
      go_wp2
      go_roundw
      case rel => exact ⟨i + 1, b ||| 2 ^ k, by omega, by rw [OB1.out], ob2, rfl, trivial, HBIT.out⟩
      case measure => simp [intOf]; omega
    · obtain rfl : i = l.length := by omega
      have hbl : b = bitN l := by rw [← hbit]; simp [bitN]
      have HBL := hide hbl
      clear hbit hbl
      go_wp2
      refine bodyPost_ret (v := NVal.val ⟨1, some ⟨w.heap.size + 1, 0, none⟩, 1, 1, none, 0, 0, ⟨#[]⟩⟩) (by simp [results, Tryz.results227, go_sem, NVal.val, ndV]) rfl ?_
      refine ⟨_, rfl, ?_, ((Below.refl _ _).alloc (Nat.le_refl _) _).alloc (by simp) _⟩
      rw [← HBL.out]
      have hnew := heap_alloc_new (w.alloc (.cells #[.int .i64 1, .slice (some ⟨w.heap.size + 1, 0, none⟩) 1 1, .slice none 0 0, .string ⟨#[]⟩] 49)) (.cells #[.int .i64 (b : Int)] 2)
      have hz : (w.alloc (.cells #[.int .i64 1, .slice (some ⟨w.heap.size + 1, 0, none⟩) 1 1, .slice none 0 0, .string ⟨#[]⟩] 49)).heap.size = w.heap.size + 1 := by simp
      rw [hz] at hnew
      refine vn_nums (l := [(b : Int)]) ⟨_, _, rfl, Nat.le_refl _, (fun h => by cases h), fun a e j u hu => ?_⟩ (by simp) (by omega) (by simp)
      simp only [Option.some.injEq] at e
      subst e
      cases j with
      | zero =>
        simp at hu
        subst hu
        rw [add_mk, cell_of hnew]; rfl
      | succ j => simp at hu
end Go.Proofs.YtkpgfhapffijkaaGreatDoor

/- Package jdl: workdays. -/
namespace Go.DsJd
open Go.DsLx Go.DsMk
def workP (E : Int) (ws : List Tk) : Except Fl (Nd × List Tk) :=
  match thenP E ⟨#[44]⟩ (intP E ws) with
  | .error f => .error f
  | .ok (k, r) => match nameP E r with
    | .error f => .error f
    | .ok (n, r2) => .ok (.mk 5 [k] [] n, r2)
end Go.DsJd
namespace Go.Proofs.YtkpgfhapffijkaaGreatDoor
open Go.ChangeShapes Go.WideShapes Go.ChangeAt Go.RowKit Go.DsMem Go.DsLx Go.DsJd Go.DsMk
set_option linter.unusedVariables false
theorem rdI_one {W : World} {g : Nat} {k : Int} (h : W.heap[g]? = some (.cells #[.int .i64 k] 2 (0, 0))) : RdI W (.slice (some ⟨g, 0, none⟩) 1 1) [k] := by
  refine ⟨_, _, rfl, Nat.le_refl _, (fun h => by cases h), fun a e j u hu => ?_⟩
  simp only [Option.some.injEq] at e
  subst e
  cases j with
  | zero =>
    simp at hu
    subst hu
    rw [add_mk, cell_of h]; rfl
  | succ j => simp at hu
set_option maxHeartbeats 4000000 in
set_option maxRecDepth 20000 in
/-- (*jdl.reader).work -/
theorem work_any {w : World} {R : Nat} {E d : Int} {B N : Nat} {ws : List Tk} (h : Rdr w R E d B N ws) (hn : ∀ t ∈ ws, 0 ≤ t.n ∧ t.n ≤ 999999999) : Calls Tryz.prog 233 #[.pointer (some ⟨R, 0, none⟩)] w (PE R E d B N (workP E ws) VN w) := by
  obtain ⟨hN1, hN2⟩ := h.n
  have HI : Hid (∀ o, _) := hide (fun o => integer_any (h.below (below_new4 o)) hn)
  have HM := hide (fun (w : World) (r : List Tk) (h : Rdr w R E d B N r) => must_any ⟨#[44]⟩ h (by decide))
  have HNM := hide (fun (w : World) (r : List Tk) (h : Rdr w R E d B N r) => name_any h)
  have HRES : Hid (ResN (w.alloc (.cells #[.int .i64 0, .slice none 0 0, .slice none 0 0, .string ⟨#[]⟩] 49)) w.heap.size) := heap_alloc_new w _
  have HOA : Hid (Only (· = R) w (w.alloc (.cells #[.int .i64 0, .slice none 0 0, .slice none 0 0, .string ⟨#[]⟩] 49))) := Only.alloc _ _ _
  have hzA : (w.alloc (.cells #[.int .i64 0, .slice none 0 0, .slice none 0 0, .string ⟨#[]⟩] 49)).heap.size = w.heap.size + 1 := by simp
  clear h hn
  unfold workP
  generalize intP E ws = q at *
  cases q with
  | error f =>
    have e : thenP E ⟨#[44]⟩ (.error f : Except Fl (Int × List Tk)) = .error f := rfl
    rw [e]
    unfold PE Ends at HI
    unfold PE Ends
    simp only at HI ⊢
    go_enter Tryz.func233, Tryz.ntmps233
    go_wp2_with fail
    refine (HI.out _).mono ?_
    rintro e w1 ⟨rfl, ho⟩
    have HO := hide (HOA.out.trans ho (fun _ _ h => h))
    clear ho
    go_wp2
    exact ⟨rfl, rfl, HO.out⟩
  | ok p =>
    obtain ⟨k, r⟩ := p
    have e : thenP E ⟨#[44]⟩ (.ok (k, r)) = (match mustP E ⟨#[44]⟩ r with | .error f => .error f | .ok r2 => .ok (k, r2)) := rfl
    rw [e]
    have HM2 := hide (fun (w : World) h => HM.out w r h)
    clear HM e
    unfold PE Ends VI at HI
    simp only at HI
    generalize mustP E ⟨#[44]⟩ r = qm at *
    cases qm with
    | error f =>
      unfold Ends at HM2
      unfold PE Ends
      simp only at HM2 ⊢
      go_enter Tryz.func233, Tryz.ntmps233
      go_wp2_with fail
      refine (HI.out _).mono ?_
      rintro e w1 ⟨v, rfl, rfl, hr, ho⟩
      have HO := hide (HOA.out.trans ho (fun _ _ h => h))
      have HR := hide hr
      clear ho hr
      go_wp2_with fail
      refine (HM2.out _ HR.out).mono ?_
      rintro e w2 ⟨rfl, ho2⟩
      have HO2 := hide (HO.out.trans ho2 (fun _ _ h => h))
      clear ho2
      go_wp2
      exact ⟨rfl, rfl, HO2.out⟩
    | ok r2 =>
      unfold Ends at HM2
      simp only at HM2 ⊢
      have HN3 := hide (fun (w : World) h => HNM.out w r2 h)
      clear HNM
      generalize nameP E r2 = qn at *
      go_enter Tryz.func233, Tryz.ntmps233
      go_wp2_with fail
      refine (HI.out _).mono ?_
      rintro e w1 ⟨v, rfl, rfl, hr, ho⟩
      have HO := hide (HOA.out.trans ho (fun _ _ h => h))
      have hs1 := ho.size
      have HR := hide hr
      have HRES1 := hide (HRES.out.only ho (by omega))
      clear ho hr
      go_wp2_with fail
      refine (HM2.out _ HR.out).mono ?_
      rintro e w2 ⟨rfl, hr2, ho2⟩
      have HO2 := hide (HO.out.trans ho2 (fun _ _ h => h))
      have hs2 := ho2.size
      have HR2 := hide hr2
      have HRES2 := hide (HRES1.out.only ho2 (by omega))
      clear ho2 hr2
      go_wp2_with fail
      refine (HN3.out _ (HR2.out.below (below_new4 _))).mono ?_
      intro e w3 hz
      cases qn with
      | error f =>
        obtain ⟨rfl, ho3⟩ := hz
        have HO3 := hide ((HO2.out.trans (Only.alloc _ _ _) (fun _ _ h => h)).trans ho3 (fun _ _ h => h))
        clear ho3
        go_wp2
        exact ⟨rfl, rfl, HO3.out⟩
      | ok p =>
        obtain ⟨nm, r3⟩ := p
        obtain ⟨v, rfl, hv, hr3, ho3⟩ := hz
        unfold VS at hv
        subst hv
        have HNUM : Hid (w3.heap[w2.heap.size]? = some (.cells #[.int .i64 k] 2 (0, 0))) := heap_only (heap_alloc_new w2 _) ho3 (by omega)
        have HRES3 : Hid (ResN w3 w.heap.size) := heap_only (heap_keep' HRES2.out) ho3 (by omega)
        obtain ⟨⟨q0, q1, q2, q3⟩, f0, f1, f2, f3⟩ := HRES3.out.all
        have hs3 := ho3.size
        have hzB : (w2.alloc (.cells #[.int .i64 k] 2)).heap.size = w2.heap.size + 1 := by simp
        have HR3 := hide hr3
        have HO3 := hide ((HO2.out.trans (Only.alloc _ _ _) (fun _ _ h => h)).trans ho3 (fun _ _ h => h))
        clear ho3 hr3
        go_wp2
        refine bodyPost_ret (v := NVal.val ⟨5, some ⟨w2.heap.size, 0, none⟩, 1, 1, none, 0, 0, nm⟩) (by simp [results, Tryz.results233, go_sem, q0, q1, q2, q3, NVal.val, ndV]) rfl ?_
        have hW := only4 w3 w.heap.size (.int .i64 5) (.slice (some ⟨w2.heap.size, 0, none⟩) 1 1) (.slice none 0 0) (.string nm)
        refine ⟨_, rfl, vn_nums (l := [k]) (rdI_one ?_) (by simp) (by omega) (Nat.lt_of_lt_of_le (by omega) hW.size), ?_, ?_⟩
        · rw [hW.block w2.heap.size (by omega) (by omega)]; exact HNUM.out
        · exact HR3.out.only (((((Below.refl N _).setCell hN1 _).setCell hN1 _).setCell hN1 _).setCell hN1 _)
        · exact only_set4 HO3.out (Nat.le_refl _) _ _ _ _
end Go.Proofs.YtkpgfhapffijkaaGreatDoor
