/- Package jdl: one of the days. -/
import Derived.Test.YtkpgfhapffijkaaDoorJ9
namespace Go.DsJd
open Go.DsLx Go.DsMk
def sNot : ByteArray := ⟨#[110, 111, 116]⟩
def sLp : ByteArray := ⟨#[40]⟩
def sRp : ByteArray := ⟨#[41]⟩
def sAnd : ByteArray := ⟨#[97, 110, 100]⟩
def sOr : ByteArray := ⟨#[111, 114]⟩
abbrev isCall (x : ByteArray) : Prop := x = ⟨#[119, 101, 101, 107]⟩ ∨ x = ⟨#[100, 97, 116, 101, 115]⟩ ∨ x = ⟨#[109, 111, 110, 116, 104]⟩ ∨ x = ⟨#[110, 116, 104]⟩ ∨ x = ⟨#[119, 111, 114, 107]⟩ ∨ x = ⟨#[102, 105, 115, 99, 97, 108]⟩
theorem str_ne2 {y : ByteArray} (l : List UInt8) (h : ¬ y = ⟨l.toArray⟩) : (y.toList == l) = false := by
  have := str_ne h
  rw [toList_eq ⟨l.toArray⟩] at this
  simpa using this
/-- days: Or of And of parts -/
def daysP (E : Int) (one : List Tk → Except Fl (Nd × List Tk)) (ws : List Tk) : Except Fl (Nd × List Tk) := manyP E sOr 8 (manyP E sAnd 7 one) ws
def notP (x : Except Fl (Nd × List Tk)) : Except Fl (Nd × List Tk) := match x with | .error f => .error f | .ok (a, r) => .ok (.mk 9 [] [a] ⟨#[]⟩, r)
def refP (x : Except Fl (ByteArray × List Tk)) : Except Fl (Nd × List Tk) := match x with | .error f => .error f | .ok (n, r) => .ok (.mk 10 [] [] n, r)
def oneStep (E d : Int) (call one : List Tk → Except Fl (Nd × List Tk)) (ws : List Tk) : Except Fl (Nd × List Tk) :=
  if textF ws = sNot then notP (deepP E d one ws)
  else if textF ws = sLp then thenP E sRp (deepP E d (daysP E one) ws)
  else if isCall (textF ws) then call ws
  else if textF ws = sAnd ∨ textF ws = sOr then .error (atF E ws, 20)
  else refP (nameP E ws)
end Go.DsJd
namespace Go.Proofs.YtkpgfhapffijkaaDoor
open Go.ChangeShapes Go.WideShapes Go.ChangeAt Go.RowKit Go.DsMem Go.DsLx Go.DsJd Go.DsMk
set_option linter.unusedVariables false
theorem vn_not {w w2 W : World} {s0 p : Nat} {nv : NVal} {a : Nd} (hon : NdOn (fun b => s0 ≤ b ∧ b < w2.heap.size) w2 nv a) (hs0 : w.heap.size ≤ s0) (hp : p < s0) (hs2 : s0 ≤ w2.heap.size)
    (hW : Only (· = p) (w2.alloc (.cells #[.int .i64 nv.op, .slice nv.no nv.nl nv.nc, .slice nv.ko nv.kl nv.kc, .string nv.nm] 41)) W) : VN w (.mk 9 [] [a] ⟨#[]⟩) (NVal.val ⟨9, none, 0, 0, some ⟨w2.heap.size, 0, none⟩, 1, 1, ⟨#[]⟩⟩) W := by
  have hz : (w2.alloc (.cells #[.int .i64 nv.op, .slice nv.no nv.nl nv.nc, .slice nv.ko nv.kl nv.kc, .string nv.nm] 41)).heap.size = w2.heap.size + 1 := by simp
  have hsz := hW.size
  have hnew : W.heap[w2.heap.size]? = some (.cells #[.int .i64 nv.op, .slice nv.no nv.nl nv.nc, .slice nv.ko nv.kl nv.kc, .string nv.nm] 41 (0, 0)) := by
    rw [hW.block w2.heap.size (by omega) (by omega)]; exact heap_alloc_new w2 _
  refine ⟨_, rfl, .mk 9 [] [a] ⟨#[]⟩ none 0 (some ⟨w2.heap.size, 0, none⟩) 1 w2.heap.size (fun _ => nv) (RdI.nil _) (fun a e => by cases e) (by simp) (by simp) (by simp) (fun _ => rfl) (fun _ => ⟨by omega, by omega⟩) (fun j hj => ?_) (fun j hj => ?_)⟩
  · obtain rfl : j = 0 := by simp at hj; omega
    exact ⟨by rw [cell_of hnew]; rfl, by rw [cell_of hnew]; rfl, by rw [cell_of hnew]; rfl, by rw [cell_of hnew]; rfl⟩
  · obtain rfl : j = 0 := by simp at hj; omega
    exact hon.mono (fun b hb => ⟨by omega, by omega⟩) (fun ad u hB hc => hW.cell (Below.keeps (below_new4 _) (Nat.le_refl _) hc) (by omega))
theorem vn_ref {w W : World} (n : ByteArray) : VN w (.mk 10 [] [] n) (NVal.val ⟨10, none, 0, 0, none, 0, 0, n⟩) W :=
  ⟨_, rfl, .mk 10 [] [] n none 0 none 0 0 (fun _ => ⟨0, none, 0, 0, none, 0, 0, ⟨#[]⟩⟩) (RdI.nil _) (fun a e => by cases e) (by simp) (by simp) (by simp) (fun h => by simp at h) (fun h => by simp at h) (fun j hj => by simp at hj) (fun j hj => by simp at hj)⟩
theorem only4 (w' : World) (p : Nat) (a b c d : Value) : Only (· = p) w' ((((w'.setCell ⟨p, 0, none⟩ a).setCell ⟨p, 1, none⟩ b).setCell ⟨p, 2, none⟩ c).setCell ⟨p, 3, none⟩ d) :=
  (((Only.set w' p 0 _).trans (Only.set _ p 1 _) (fun _ _ h => h)).trans (Only.set _ p 2 _) (fun _ _ h => h)).trans (Only.set _ p 3 _) (fun _ _ h => h)
theorem vn_set {w w2 W : World} {s0 p : Nat} {nv : NVal} {a : Nd} (hon : NdOn (fun b => s0 ≤ b ∧ b < w2.heap.size) w2 nv a) (hs0 : w.heap.size ≤ s0) (hp : p < s0) (hW : Only (· = p) w2 W) : VN w a nv.val W :=
  ⟨nv, rfl, hon.mono (fun b hb => ⟨by omega, Nat.lt_of_lt_of_le hb.2 hW.size⟩) (fun ad u hB hc => hW.cell hc (by omega))⟩
set_option maxHeartbeats 8000000 in
set_option maxRecDepth 20000 in
/-- (*jdl.reader).oneDays -/
theorem oneDays_any {w : World} {R : Nat} {E d : Int} {B N : Nat} {ws : List Tk} (h : Rdr w R E d B N ws) (hd0 : 0 ≤ d) (hd1 : d ≤ 16) (call one : List Tk → Except Fl (Nd × List Tk)) (P : List Tk → Prop) (hP0 : P ws) (hPt : ∀ ws, P ws → P ws.tail) (hPn : ∀ ws a r, P ws → one ws = .ok (a, r) → P r ∧ P r.tail) (hPm : ∀ ws a r, P ws → manyP E sAnd 7 one ws = .ok (a, r) → P r ∧ P r.tail)
    (hc : isCall (textF ws) → ∀ w, Rdr w R E d B N ws → Calls Tryd.prog 73 #[.pointer (some ⟨R, 0, none⟩)] w (PE R E d B N (call ws) VN w))
    (hp : d < 16 → ∀ w ws, P ws → Rdr w R E (d + 1) B N ws → Calls Tryd.prog 60 #[.pointer (some ⟨R, 0, none⟩)] w (PE R E (d + 1) B N (one ws) VN w)) :
    Calls Tryd.prog 60 #[.pointer (some ⟨R, 0, none⟩)] w (PE R E d B N (oneStep E d call one ws) VN w) := by
  obtain ⟨hN1, hN2⟩ := h.n
  have hmf : ∀ (fn : Fn) (first cap : Array Value) (w : World), (Instr.makeFunc fn first cap).run Tryd.prog w = .ok (.func fn first cap) w := fun _ _ _ _ => rfl
  have HRES : Hid (ResN (w.alloc (.cells #[.int .i64 0, .slice none 0 0, .slice none 0 0, .string ⟨#[]⟩] 41)) w.heap.size) := heap_alloc_new w _
  have HOA : Hid (Only (· = R) w (w.alloc (.cells #[.int .i64 0, .slice none 0 0, .slice none 0 0, .string ⟨#[]⟩] 41))) := Only.alloc _ _ _
  have hzA : (w.alloc (.cells #[.int .i64 0, .slice none 0 0, .slice none 0 0, .string ⟨#[]⟩] 41)).heap.size = w.heap.size + 1 := by simp
  have HT : Hid (∀ o, Calls Tryd.prog 27 #[.pointer (some ⟨R, 0, none⟩)] (w.alloc o) fun e w' => e = .returned (.string (textF ws)) ∧ w' = w.alloc o) := fun o => text_any (h.below (below_new4 o))
  by_cases c1 : textF ws = sNot
  · have e : oneStep E d call one ws = notP (deepP E d one ws) := by unfold oneStep; rw [if_pos c1]
    rw [e]
    cases ws with
    | nil => exact absurd c1 (by decide)
    | cons t r =>
      have HD : Hid (∀ o, Calls Tryd.prog 71 #[.pointer (some ⟨R, 0, none⟩), .func (.func 60) #[.pointer (some ⟨R, 0, none⟩)] #[]] (w.alloc o) (PE R E d B N (deepP E d one (t :: r)) VN (w.alloc o))) := fun o =>
        deeperN (h.below (below_new4 o)) hd0 hd1 60 #[.pointer (some ⟨R, 0, none⟩)] #[] one (cf_of Tryd.func60 (by decide +kernel) (by kernel_rfl)) (fun hd w h => hp hd w r (hPt _ hP0) h)
      rw [c1] at HT
      unfold sNot at HT
      clear h hp hc hPn hPm hP0 hPt e c1
      generalize deepP E d one (t :: r) = q at *
      cases q with
      | error f =>
        unfold PE Ends at HD
        unfold notP PE Ends
        simp only at HD ⊢
        go_enter Tryd.func60, Tryd.ntmps60
        go_wp2_with fail
        refine (HT.out _).mono ?_
        rintro e w1 ⟨rfl, rfl⟩
        go_wp2_with fail
        refine (HD.out _).mono ?_
        rintro e w2 ⟨rfl, ho2⟩
        have HO2 := hide (HOA.out.trans ho2 (fun _ _ h => h))
        clear ho2
        go_wp2
        exact ⟨rfl, rfl, HO2.out⟩
      | ok p =>
        obtain ⟨a, r'⟩ := p
        unfold PE Ends at HD
        unfold notP PE Ends
        simp only at HD ⊢
        go_enter Tryd.func60, Tryd.ntmps60
        go_wp2_with fail
        refine (HT.out _).mono ?_
        rintro e w1 ⟨rfl, rfl⟩
        go_wp2_with fail
        refine (HD.out _).mono ?_
        rintro e w2 ⟨v, rfl, ⟨nv, rfl, hon⟩, hr2, ho2⟩
        have hsz2 := ho2.size
        have HON := hide hon
        have HR2 := hide hr2
        have HO2 := hide (HOA.out.trans ho2 (fun _ _ h => h))
        have HRN : Hid (ResN w2 w.heap.size) := HRES.out.only ho2 (by omega)
        have q0 : ∀ ob, (w2.alloc ob).cell? ⟨w.heap.size, 0, none⟩ = some (.int .i64 0) := fun ob => (past HRN.out ob 0).1
        have f0 : ∀ ob, (w2.alloc ob).frozen? ⟨w.heap.size, 0, none⟩ = false := fun ob => (past HRN.out ob 0).2
        have q1 : ∀ ob, (w2.alloc ob).cell? ⟨w.heap.size, 1, none⟩ = some (.slice none 0 0) := fun ob => (past HRN.out ob 1).1
        have f1 : ∀ ob, (w2.alloc ob).frozen? ⟨w.heap.size, 1, none⟩ = false := fun ob => (past HRN.out ob 1).2
        have q2 : ∀ ob, (w2.alloc ob).cell? ⟨w.heap.size, 2, none⟩ = some (.slice none 0 0) := fun ob => (past HRN.out ob 2).1
        have f2 : ∀ ob, (w2.alloc ob).frozen? ⟨w.heap.size, 2, none⟩ = false := fun ob => (past HRN.out ob 2).2
        have q3 : ∀ ob, (w2.alloc ob).cell? ⟨w.heap.size, 3, none⟩ = some (.string ⟨#[]⟩) := fun ob => (past HRN.out ob 3).1
        have f3 : ∀ ob, (w2.alloc ob).frozen? ⟨w.heap.size, 3, none⟩ = false := fun ob => (past HRN.out ob 3).2
        clear hon hr2 ho2
        unfold NVal.val ndV
        go_wp2
        refine bodyPost_ret (v := NVal.val ⟨9, none, 0, 0, some ⟨w2.heap.size, 0, none⟩, 1, 1, ⟨#[]⟩⟩) (by simp [results, Tryd.results60, go_sem, q0, q1, q2, q3, NVal.val, ndV]) rfl ?_
        refine ⟨_, rfl, vn_not HON.out (by omega) (p := w.heap.size) (by omega) (by omega) (only4 _ _ _ _ _ _), ?_, ?_⟩
        · exact (HR2.out.below (below_new4 _)).only (((((Below.refl N _).setCell hN1 _).setCell hN1 _).setCell hN1 _).setCell hN1 _)
        · exact only_set4 (HO2.out.trans (Only.alloc _ _ _) (fun _ _ h => h)) (Nat.le_refl _) _ _ _ _
  · by_cases c2 : textF ws = sLp
    · have e : oneStep E d call one ws = thenP E sRp (deepP E d (daysP E one) ws) := by unfold oneStep; rw [if_neg c1, if_pos c2]
      rw [e]
      cases ws with
      | nil => exact absurd c2 (by decide)
      | cons t r =>
        have HD : Hid (∀ o, Calls Tryd.prog 72 #[.pointer (some ⟨R, 0, none⟩), .func (.func 46) #[.pointer (some ⟨R, 0, none⟩)] #[]] (w.alloc o) (PE R E d B N (thenP E sRp (deepP E d (daysP E one) (t :: r))) VN (w.alloc o))) := fun o =>
          bracketedN (h.below (below_new4 o)) hd0 hd1 46 #[.pointer (some ⟨R, 0, none⟩)] #[] (daysP E one) (cf_of Tryd.func46 (by decide +kernel) (by kernel_rfl)) (fun hd w h => days_any h (manyP E sAnd 7 one) P (hPt _ hP0) hPm (fun w ws hP h => bothDays_any h one P hP hPn (hp hd)))
        rw [c2] at HT
        unfold sLp at HT
        clear h hp hc hPn hPm hP0 hPt e c1 c2
        generalize thenP E sRp (deepP E d (daysP E one) (t :: r)) = q at *
        cases q with
        | error f =>
          unfold PE Ends at HD
          unfold PE Ends
          simp only at HD ⊢
          go_enter Tryd.func60, Tryd.ntmps60
          go_wp2_with fail
          refine (HT.out _).mono ?_
          rintro e w1 ⟨rfl, rfl⟩
          go_wp2_with fail
          refine (HD.out _).mono ?_
          rintro e w2 ⟨rfl, ho2⟩
          have HO2 := hide (HOA.out.trans ho2 (fun _ _ h => h))
          clear ho2
          go_wp2
          exact ⟨rfl, rfl, HO2.out⟩
        | ok p =>
          obtain ⟨a, r'⟩ := p
          unfold PE Ends at HD
          unfold PE Ends
          simp only at HD ⊢
          go_enter Tryd.func60, Tryd.ntmps60
          go_wp2_with fail
          refine (HT.out _).mono ?_
          rintro e w1 ⟨rfl, rfl⟩
          go_wp2_with fail
          refine (HD.out _).mono ?_
          rintro e w2 ⟨v, rfl, ⟨nv, rfl, hon⟩, hr2, ho2⟩
          have hsz2 := ho2.size
          have HON := hide hon
          have HR2 := hide hr2
          have HO2 := hide (HOA.out.trans ho2 (fun _ _ h => h))
          have HRN : Hid (ResN w2 w.heap.size) := HRES.out.only ho2 (by omega)
          obtain ⟨⟨q0, q1, q2, q3⟩, f0, f1, f2, f3⟩ := HRN.out.all
          clear hon hr2 ho2
          unfold NVal.val ndV
          go_wp2
          refine bodyPost_ret (v := nv.val) (by simp [results, Tryd.results60, go_sem, q0, q1, q2, q3, NVal.val, ndV]) rfl ?_
          refine ⟨_, rfl, vn_set HON.out (by omega) (p := w.heap.size) (by omega) (only4 _ _ _ _ _ _), ?_, ?_⟩
          · exact HR2.out.only (((((Below.refl N _).setCell hN1 _).setCell hN1 _).setCell hN1 _).setCell hN1 _)
          · exact only_set4 HO2.out (Nat.le_refl _) _ _ _ _
    · by_cases c3 : isCall (textF ws)
      · have e : oneStep E d call one ws = call ws := by unfold oneStep; rw [if_neg c1, if_neg c2, if_pos c3]
        rw [e]
        have HD : Hid (∀ o, Calls Tryd.prog 73 #[.pointer (some ⟨R, 0, none⟩)] (w.alloc o) (PE R E d B N (call ws) VN (w.alloc o))) := fun o => hc c3 _ (h.below (below_new4 o))
        clear h hp hc hPn hPm hP0 hPt e c1 c2
        rcases c3 with c | c | c | c | c | c
        all_goals
          rw [c] at HT
          clear c
          generalize call ws = q at *
          cases q with
          | error f =>
            unfold PE Ends at HD
            unfold PE Ends
            simp only at HD ⊢
            go_enter Tryd.func60, Tryd.ntmps60
            go_wp2_with fail
            refine (HT.out _).mono ?_
            rintro e w1 ⟨rfl, rfl⟩
            go_wp2_with fail
            refine (HD.out _).mono ?_
            rintro e w2 ⟨rfl, ho2⟩
            have HO2 := hide (HOA.out.trans ho2 (fun _ _ h => h))
            clear ho2
            go_wp2
            exact ⟨rfl, rfl, HO2.out⟩
          | ok p =>
            obtain ⟨a, r'⟩ := p
            unfold PE Ends at HD
            unfold PE Ends
            simp only at HD ⊢
            go_enter Tryd.func60, Tryd.ntmps60
            go_wp2_with fail
            refine (HT.out _).mono ?_
            rintro e w1 ⟨rfl, rfl⟩
            go_wp2_with fail
            refine (HD.out _).mono ?_
            rintro e w2 ⟨v, rfl, ⟨nv, rfl, hon⟩, hr2, ho2⟩
            have hsz2 := ho2.size
            have HON := hide hon
            have HR2 := hide hr2
            have HO2 := hide (HOA.out.trans ho2 (fun _ _ h => h))
            have HRN : Hid (ResN w2 w.heap.size) := HRES.out.only ho2 (by omega)
            obtain ⟨⟨q0, q1, q2, q3⟩, f0, f1, f2, f3⟩ := HRN.out.all
            clear hon hr2 ho2
            unfold NVal.val ndV
            go_wp2
            refine bodyPost_ret (v := nv.val) (by simp [results, Tryd.results60, go_sem, q0, q1, q2, q3, NVal.val, ndV]) rfl ?_
            refine ⟨_, rfl, vn_set HON.out (by omega) (p := w.heap.size) (by omega) (only4 _ _ _ _ _ _), ?_, ?_⟩
            · exact HR2.out.only (((((Below.refl N _).setCell hN1 _).setCell hN1 _).setCell hN1 _).setCell hN1 _)
            · exact only_set4 HO2.out (Nat.le_refl _) _ _ _ _
      · by_cases c4 : textF ws = sAnd ∨ textF ws = sOr
        · have e : oneStep E d call one ws = .error (atF E ws, 20) := by unfold oneStep; rw [if_neg c1, if_neg c2, if_neg c3, if_pos c4]
          rw [e]
          have HF : Hid (∀ o, Calls Tryd.prog 39 #[.pointer (some ⟨R, 0, none⟩), .int .i64 20] (w.alloc o) fun e w' => e = .returned (.agg #[.int .i64 (atF E ws), .int .i64 20]) ∧ Below (w.alloc o).heap.size (w.alloc o) w') := fun o => fault_any (h.below (below_new4 o)) 20
          clear h hp hc hPn hPm hP0 hPt e c1 c2 c3
          rcases c4 with c | c
          all_goals
            rw [c] at HT
            first | unfold sAnd at HT | unfold sOr at HT
            clear c
            go_enter Tryd.func60, Tryd.ntmps60
            go_wp2_with fail
            refine (HT.out _).mono ?_
            rintro e w1 ⟨rfl, rfl⟩
            go_wp2_with fail
            refine (HF.out _).mono ?_
            rintro e w2 ⟨rfl, hb⟩
            have HO2 := hide (HOA.out.trans (Only.below hb) (fun _ _ h => h))
            clear hb
            go_wp2
            exact ⟨rfl, rfl, HO2.out⟩
        · have e : oneStep E d call one ws = refP (nameP E ws) := by unfold oneStep; rw [if_neg c1, if_neg c2, if_neg c3, if_neg c4]
          rw [e]
          have HD : Hid (∀ o, Calls Tryd.prog 45 #[.pointer (some ⟨R, 0, none⟩)] (w.alloc o) (PE R E d B N (nameP E ws) VS (w.alloc o))) := fun o => name_any (h.below (below_new4 o))
          simp only [isCall, not_or] at c3 c4
          obtain ⟨m1, m2, m3, m4, m5, m6⟩ := c3
          obtain ⟨m7, m8⟩ := c4
          have n1 := str_ne2 [110, 111, 116] c1
          have n2 := str_ne2 [40] c2
          have n3 := str_ne2 [119, 101, 101, 107] m1
          have n4 := str_ne2 [100, 97, 116, 101, 115] m2
          have n5 := str_ne2 [109, 111, 110, 116, 104] m3
          have n6 := str_ne2 [110, 116, 104] m4
          have n7 := str_ne2 [119, 111, 114, 107] m5
          have n8 := str_ne2 [102, 105, 115, 99, 97, 108] m6
          have n9 := str_ne2 [97, 110, 100] m7
          have n10 := str_ne2 [111, 114] m8
          clear h hp hc hPn hPm hP0 hPt e c1 c2 m1 m2 m3 m4 m5 m6 m7 m8
          generalize textF ws = y at *
          generalize nameP E ws = q at *
          cases q with
          | error f =>
            unfold PE Ends at HD
            unfold refP PE Ends
            simp only at HD ⊢
            go_enter Tryd.func60, Tryd.ntmps60
            go_wp2_with fail
            refine (HT.out _).mono ?_
            rintro e w1 ⟨rfl, rfl⟩
            go_wp2_with fail
            refine (HD.out _).mono ?_
            rintro e w2 ⟨rfl, ho2⟩
            have HO2 := hide (HOA.out.trans ho2 (fun _ _ h => h))
            clear ho2
            go_wp2
            exact ⟨rfl, rfl, HO2.out⟩
          | ok p =>
            obtain ⟨nm, r'⟩ := p
            unfold PE Ends VS at HD
            unfold refP PE Ends
            simp only at HD ⊢
            go_enter Tryd.func60, Tryd.ntmps60
            go_wp2_with fail
            refine (HT.out _).mono ?_
            rintro e w1 ⟨rfl, rfl⟩
            go_wp2_with fail
            refine (HD.out _).mono ?_
            rintro e w2 ⟨v, rfl, rfl, hr2, ho2⟩
            have hsz2 := ho2.size
            have HR2 := hide hr2
            have HO2 := hide (HOA.out.trans ho2 (fun _ _ h => h))
            have HRN : Hid (ResN w2 w.heap.size) := HRES.out.only ho2 (by omega)
            obtain ⟨⟨q0, q1, q2, q3⟩, f0, f1, f2, f3⟩ := HRN.out.all
            clear hr2 ho2
            go_wp2
            refine bodyPost_ret (v := NVal.val ⟨10, none, 0, 0, none, 0, 0, nm⟩) (by simp [results, Tryd.results60, go_sem, q0, q1, q2, q3, NVal.val, ndV]) rfl ?_
            refine ⟨_, rfl, vn_ref nm, ?_, ?_⟩
            · exact HR2.out.only (((((Below.refl N _).setCell hN1 _).setCell hN1 _).setCell hN1 _).setCell hN1 _)
            · exact only_set4 HO2.out (Nat.le_refl _) _ _ _ _
end Go.Proofs.YtkpgfhapffijkaaDoor
