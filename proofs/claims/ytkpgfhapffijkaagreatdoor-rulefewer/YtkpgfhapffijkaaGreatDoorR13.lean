/- Package jdl: one of the days. -/
import Derived.Test.YtkpgfhapffijkaaGreatDoorR12
namespace Go.DsJd
open Go.DsLx Go.DsMk
def sNot : ByteArray := ⟨#[110, 111, 116]⟩
def sLp : ByteArray := ⟨#[40]⟩
def sRp : ByteArray := ⟨#[41]⟩
def sAnd : ByteArray := ⟨#[97, 110, 100]⟩
def sOr : ByteArray := ⟨#[111, 114]⟩
abbrev isCall (x : ByteArray) : Prop := x = ⟨#[119, 101, 101, 107]⟩ ∨ x = ⟨#[100, 97, 116, 101, 115]⟩ ∨ x = ⟨#[109, 111, 110, 116, 104]⟩ ∨ x = ⟨#[110, 116, 104]⟩ ∨ x = ⟨#[119, 111, 114, 107]⟩ ∨ x = ⟨#[102, 105, 115, 99, 97, 108]⟩
theorem str_ne2 {y : ByteArray} (l : List UInt8) (h : ¬ y = ⟨l.toArray⟩) : (y.toList == l) = false := by
  have := str_ne h
  rw [toList_eq ⟨l.toArray⟩] at this
  simpa using this
/-- days: Or of And of parts -/
def daysP (E : Int) (one : List Tk → Except Fl (Nd × List Tk)) (ws : List Tk) : Except Fl (Nd × List Tk) := manyP E sOr 8 (manyP E sAnd 7 one) ws
def notP (x : Except Fl (Nd × List Tk)) : Except Fl (Nd × List Tk) := match x with | .error f => .error f | .ok (a, r) => .ok (.mk 9 [] [a] ⟨#[]⟩, r)
def refP (x : Except Fl (ByteArray × List Tk)) : Except Fl (Nd × List Tk) := match x with | .error f => .error f | .ok (n, r) => .ok (.mk 10 [] [] n, r)
def oneStep (E d : Int) (call one : List Tk → Except Fl (Nd × List Tk)) (ws : List Tk) : Except Fl (Nd × List Tk) :=
  if textF ws = sNot then notP (deepP E d one ws)
  else if textF ws = sLp then thenP E sRp (deepP E d (daysP E one) ws)
  else if isCall (textF ws) then call ws
  else if textF ws = sAnd ∨ textF ws = sOr then .error (atF E ws, 20)
  else refP (nameP E ws)
end Go.DsJd
namespace Go.Proofs.YtkpgfhapffijkaaGreatDoor
open Go.ChangeShapes Go.WideShapes Go.ChangeAt Go.RowKit Go.DsMem Go.DsLx Go.DsJd Go.DsMk
set_option linter.unusedVariables false
theorem vn_not {w w2 W : World} {s0 p : Nat} {nv : NVal} {a : Nd} (hon : NdOn (fun b => s0 ≤ b ∧ b < w2.heap.size) w2 nv a) (hs0 : w.heap.size ≤ s0) (hp : p < s0) (hs2 : s0 ≤ w2.heap.size)
    (hW : Only (· = p) (w2.alloc (.cells #[.int .i64 nv.op, .slice nv.no nv.nl nv.nc, .slice nv.ko nv.kl nv.kc, .string nv.nm] 49)) W) : VN w (.mk 9 [] [a] ⟨#[]⟩) (NVal.val ⟨9, none, 0, 0, some ⟨w2.heap.size, 0, none⟩, 1, 1, ⟨#[]⟩⟩) W := by
  have hz : (w2.alloc (.cells #[.int .i64 nv.op, .slice nv.no nv.nl nv.nc, .slice nv.ko nv.kl nv.kc, .string nv.nm] 49)).heap.size = w2.heap.size + 1 := by simp
  have hsz := hW.size
  have hnew : W.heap[w2.heap.size]? = some (.cells #[.int .i64 nv.op, .slice nv.no nv.nl nv.nc, .slice nv.ko nv.kl nv.kc, .string nv.nm] 49 (0, 0)) := by
    rw [hW.block w2.heap.size (by omega) (by omega)]; exact heap_alloc_new w2 _
  refine ⟨_, rfl, .mk 9 [] [a] ⟨#[]⟩ none 0 (some ⟨w2.heap.size, 0, none⟩) 1 w2.heap.size (fun _ => nv) (RdI.nil _) (fun a e => by cases e) (by simp) (by simp) (by simp) (fun _ => rfl) (fun _ => ⟨by omega, by omega⟩) (fun j hj => ?_) (fun j hj => ?_)⟩
  · obtain rfl : j = 0 := by simp at hj; omega
    exact ⟨by rw [cell_of hnew]; rfl, by rw [cell_of hnew]; rfl, by rw [cell_of hnew]; rfl, by rw [cell_of hnew]; rfl⟩
  · obtain rfl : j = 0 := by simp at hj; omega
    exact hon.mono (fun b hb => ⟨by omega, by omega⟩) (fun ad u hB hc => hW.cell (Below.keeps (below_new4 _) (Nat.le_refl _) hc) (by omega))
theorem vn_ref {w W : World} (n : ByteArray) : VN w (.mk 10 [] [] n) (NVal.val ⟨10, none, 0, 0, none, 0, 0, n⟩) W :=
  ⟨_, rfl, .mk 10 [] [] n none 0 none 0 0 (fun _ => ⟨0, none, 0, 0, none, 0, 0, ⟨#[]⟩⟩) (RdI.nil _) (fun a e => by cases e) (by simp) (by simp) (by simp) (fun h => by simp at h) (fun h => by simp at h) (fun j hj => by simp at hj) (fun j hj => by simp at hj)⟩
theorem only4 (w' : World) (p : Nat) (a b c d : Value) : Only (· = p) w' ((((w'.setCell ⟨p, 0, none⟩ a).setCell ⟨p, 1, none⟩ b).setCell ⟨p, 2, none⟩ c).setCell ⟨p, 3, none⟩ d) :=
  (((Only.set w' p 0 _).trans (Only.set _ p 1 _) (fun _ _ h => h)).trans (Only.set _ p 2 _) (fun _ _ h => h)).trans (Only.set _ p 3 _) (fun _ _ h => h)
theorem vn_set {w w2 W : World} {s0 p : Nat} {nv : NVal} {a : Nd} (hon : NdOn (fun b => s0 ≤ b ∧ b < w2.heap.size) w2 nv a) (hs0 : w.heap.size ≤ s0) (hp : p < s0) (hW : Only (· = p) w2 W) : VN w a nv.val W :=
  ⟨nv, rfl, hon.mono (fun b hb => ⟨by omega, Nat.lt_of_lt_of_le hb.2 hW.size⟩) (fun ad u hB hc => hW.cell hc (by omega))⟩
set_option maxHeartbeats 8000000 in
set_option maxRecDepth 20000 in
/-- (*jdl.reader).oneDays -/
theorem oneDays_any {w : World} {R : Nat} {E d : Int} {B N : Nat} {ws : List Tk} (h : Rdr w R E d B N ws) (hd0 : 0 ≤ d) (hd1 : d ≤ 16) (call one : List Tk → Except Fl (Nd × List Tk)) (P : List Tk → Prop) (hP0 : P ws) (hPt : ∀ ws, P ws → P ws.tail) (hPn : ∀ ws a r, P ws → one ws = .ok (a, r) → P r ∧ P r.tail) (hPm : ∀ ws a r, P ws → manyP E sAnd 7 one ws = .ok (a, r) → P r ∧ P r.tail)
    (hc : isCall (textF ws) → ∀ w, Rdr w R E d B N ws → Calls Tryz.prog 216 #[.pointer (some ⟨R, 0, none⟩)] w (PE R E d B N (call ws) VN w))
    (hp : d < 16 → ∀ w ws, P ws → Rdr w R E (d + 1) B N ws → Calls Tryz.prog 188 #[.pointer (some ⟨R, 0, none⟩)] w (PE R E (d + 1) B N (one ws) VN w)) :
    Calls Tryz.prog 188 #[.pointer (some ⟨R, 0, none⟩)] w (PE R E d B N (oneStep E d call one ws) VN w) := by
  obtain ⟨hN1, hN2⟩ := h.n
  have hmf : ∀ (fn : Fn) (first cap : Array Value) (w : World), (Instr.makeFunc fn first cap).run Tryz.prog w = .ok (.func fn first cap) w := fun _ _ _ _ => rfl
  have HRES : Hid (ResN (w.alloc (.cells #[.int .i64 0, .slice none 0 0, .slice none 0 0, .string ⟨#[]⟩] 49)) w.heap.size) := heap_alloc_new w _
  have HOA : Hid (Only (· = R) w (w.alloc (.cells #[.int .i64 0, .slice none 0 0, .slice none 0 0, .string ⟨#[]⟩] 49))) := Only.alloc _ _ _
  have hzA : (w.alloc (.cells #[.int .i64 0, .slice none 0 0, .slice none 0 0, .string ⟨#[]⟩] 49)).heap.size = w.heap.size + 1 := by simp
  have HT : Hid (∀ o, Calls Tryz.prog 95 #[.pointer (some ⟨R, 0, none⟩)] (w.alloc o) fun e w' => e = .returned (.string (textF ws)) ∧ w' = w.alloc o) := fun o => text_any (h.below (below_new4 o))
  by_cases c1 : textF ws = sNot
  · have e : oneStep E d call one ws = notP (deepP E d one ws) := by unfold oneStep; rw [if_pos c1]
    rw [e]
    cases ws with
    | nil => exact absurd c1 (by decide)
    | cons t r =>
      have HD : Hid (∀ o, Calls Tryz.prog 214 #[.pointer (some ⟨R, 0, none⟩), .func (.func 188) #[.pointer (some ⟨R, 0, none⟩)] #[]] (w.alloc o) (PE R E d B N (deepP E d one (t :: r)) VN (w.alloc o))) := fun o =>
        deeperN (h.below (below_new4 o)) hd0 hd1 188 #[.pointer (some ⟨R, 0, none⟩)] #[] one (cf_of Tryz.func188 (by decide +kernel) (by kernel_rfl)) (fun hd w h => hp hd w r (hPt _ hP0) h)
      rw [c1] at HT
      unfold sNot at HT
      clear h hp hc hPn hPm hP0 hPt e c1
      generalize deepP E d one (t :: r) = q at *
      cases q with
      | error f =>
        unfold PE Ends at HD
        unfold notP PE Ends
        simp only at HD ⊢
        go_enter Tryz.func188, Tryz.ntmps188
        go_wp2_with fail
        refine (HT.out _).mono ?_
        rintro e w1 ⟨rfl, rfl⟩
        go_wp2_with fail
        refine (HD.out _).mono ?_
        rintro e w2 ⟨rfl, ho2⟩
        have HO2 := hide (HOA.out.trans ho2 (fun _ _ h => h))
        clear ho2
        go_wp2
        exact ⟨rfl, rfl, HO2.out⟩
      | ok p =>
        obtain ⟨a, r'⟩ := p
        unfold PE Ends at HD
        unfold notP PE Ends
        simp only at HD ⊢
        go_enter Tryz.func188, Tryz.ntmps188
        go_wp2_with fail
        refine (HT.out _).mono ?_
        rintro e w1 ⟨rfl, rfl⟩
        go_wp2_with fail
        refine (HD.out _).mono ?_
        rintro e w2 ⟨v, rfl, ⟨nv, rfl, hon⟩, hr2, ho2⟩
        have hsz2 := ho2.size
        have HON := hide hon
        have HR2 := hide hr2
        have HO2 := hide (HOA.out.trans ho2 (fun _ _ h => h))
        have HRN : Hid (ResN w2 w.heap.size) := HRES.out.only ho2 (by omega)
        have q0 : ∀ ob, (w2.alloc ob).cell? ⟨w.heap.size, 0, none⟩ = some (.int .i64 0) := fun ob => (past HRN.out ob 0).1
        have f0 : ∀ ob, (w2.alloc ob).frozen? ⟨w.heap.size, 0, none⟩ = false := fun ob => (past HRN.out ob 0).2
        have q1 : ∀ ob, (w2.alloc ob).cell? ⟨w.heap.size, 1, none⟩ = some (.slice none 0 0) := fun ob => (past HRN.out ob 1).1
        have f1 : ∀ ob, (w2.alloc ob).frozen? ⟨w.heap.size, 1, none⟩ = false := fun ob => (past HRN.out ob 1).2
        have q2 : ∀ ob, (w2.alloc ob).cell? ⟨w.heap.size, 2, none⟩ = some (.slice none 0 0) := fun ob => (past HRN.out ob 2).1
        have f2 : ∀ ob, (w2.alloc ob).frozen? ⟨w.heap.size, 2, none⟩ = false := fun ob => (past HRN.out ob 2).2
        have q3 : ∀ ob, (w2.alloc ob).cell? ⟨w.heap.size, 3, none⟩ = some (.string ⟨#[]⟩) := fun ob => (past HRN.out ob 3).1
        have f3 : ∀ ob, (w2.alloc ob).frozen? ⟨w.heap.size, 3, none⟩ = false := fun ob => (past HRN.out ob 3).2
        clear hon hr2 ho2
        unfold NVal.val ndV
        go_wp2
        refine bodyPost_ret (v := NVal.val ⟨9, none, 0, 0, some ⟨w2.heap.size, 0, none⟩, 1, 1, ⟨#[]⟩⟩) (by simp [results, Tryz.results188, go_sem, q0, q1, q2, q3, NVal.val, ndV]) rfl ?_
        refine ⟨_, rfl, vn_not HON.out (by omega) (p := w.heap.size) (by omega) (by omega) (only4 _ _ _ _ _ _), ?_, ?_⟩
        · exact (HR2.out.below (below_new4 _)).only (((((Below.refl N _).setCell hN1 _).setCell hN1 _).setCell hN1 _).setCell hN1 _)
        · exact only_set4 (HO2.out.trans (Only.alloc _ _ _) (fun _ _ h => h)) (Nat.le_refl _) _ _ _ _
  · by_cases c2 : textF ws = sLp
    · have e : oneStep E d call one ws = thenP E sRp (deepP E d (daysP E one) ws) := by unfold oneStep; rw [if_neg c1, if_pos c2]
      rw [e]
      cases ws with
      | nil => exact absurd c2 (by decide)
      | cons t r =>
        have HD : Hid (∀ o, Calls Tryz.prog 215 #[.pointer (some ⟨R, 0, none⟩), .func (.func 136) #[.pointer (some ⟨R, 0, none⟩)] #[]] (w.alloc o) (PE R E d B N (thenP E sRp (deepP E d (daysP E one) (t :: r))) VN (w.alloc o))) := fun o =>
          bracketedN (h.below (below_new4 o)) hd0 hd1 136 #[.pointer (some ⟨R, 0, none⟩)] #[] (daysP E one) (cf_of Tryz.func136 (by decide +kernel) (by kernel_rfl)) (fun hd w h => days_any h (manyP E sAnd 7 one) P (hPt _ hP0) hPm (fun w ws hP h => bothDays_any h one P hP hPn (hp hd)))
        rw [c2] at HT
        unfold sLp at HT
        clear h hp hc hPn hPm hP0 hPt e c1 c2
        generalize thenP E sRp (deepP E d (daysP E one) (t :: r)) = q at *
        cases q with
        | error f =>
          unfold PE Ends at HD
          unfold PE Ends
          simp only at HD ⊢
          go_enter Tryz.func188, Tryz.ntmps188
          go_wp2_with fail
          refine (HT.out _).mono ?_
          rintro e w1 ⟨rfl, rfl⟩
          go_wp2_with fail
          refine (HD.out _).mono ?_
          rintro e w2 ⟨rfl, ho2⟩
          have HO2 := hide (HOA.out.trans ho2 (fun _ _ h => h))
          clear ho2
          go_wp2
          exact ⟨rfl, rfl, HO2.out⟩
        | ok p =>
          obtain ⟨a, r'⟩ := p
          unfold PE Ends at HD
          unfold PE Ends
          simp only at HD ⊢
          go_enter Tryz.func188, Tryz.ntmps188
          go_wp2_with fail
          refine (HT.out _).mono ?_
          rintro e w1 ⟨rfl, rfl⟩
          go_wp2_with fail
          refine (HD.out _).mono ?_
          rintro e w2 ⟨v, rfl, ⟨nv, rfl, hon⟩, hr2, ho2⟩
          have hsz2 := ho2.size
          have HON := hide hon
          have HR2 := hide hr2
          have HO2 := hide (HOA.out.trans ho2 (fun _ _ h => h))
          have HRN : Hid (ResN w2 w.heap.size) := HRES.out.only ho2 (by omega)
          obtain ⟨⟨q0, q1, q2, q3⟩, f0, f1, f2, f3⟩ := HRN.out.all
          clear hon hr2 ho2
          unfold NVal.val ndV
          go_wp2
          refine bodyPost_ret (v := nv.val) (by simp [results, Tryz.results188, go_sem, q0, q1, q2, q3, NVal.val, ndV]) rfl ?_
          refine ⟨_, rfl, vn_set HON.out (by omega) (p := w.heap.size) (by omega) (only4 _ _ _ _ _ _), ?_, ?_⟩
          · exact HR2.out.only (((((Below.refl N _).setCell hN1 _).setCell hN1 _).setCell hN1 _).setCell hN1 _)
          · exact only_set4 HO2.out (Nat.le_refl _) _ _ _ _
    · by_cases c3 : isCall (textF ws)
      · have e : oneStep E d call one ws = call ws := by unfold oneStep; rw [if_neg c1, if_neg c2, if_pos c3]
        rw [e]
        have HD : Hid (∀ o, Calls Tryz.prog 216 #[.pointer (some ⟨R, 0, none⟩)] (w.alloc o) (PE R E d B N (call ws) VN (w.alloc o))) := fun o => hc c3 _ (h.below (below_new4 o))
        clear h hp hc hPn hPm hP0 hPt e c1 c2
        rcases c3 with c | c | c | c | c | c
        all_goals
          rw [c] at HT
          clear c
          generalize call ws = q at *
          cases q with
          | error f =>
            unfold PE Ends at HD
            unfold PE Ends
            simp only at HD ⊢
            go_enter Tryz.func188, Tryz.ntmps188
            go_wp2_with fail
            refine (HT.out _).mono ?_
            rintro e w1 ⟨rfl, rfl⟩
            go_wp2_with fail
            refine (HD.out _).mono ?_
            rintro e w2 ⟨rfl, ho2⟩
            have HO2 := hide (HOA.out.trans ho2 (fun _ _ h => h))
            clear ho2
            go_wp2
            exact ⟨rfl, rfl, HO2.out⟩
          | ok p =>
            obtain ⟨a, r'⟩ := p
            unfold PE Ends at HD
            unfold PE Ends
            simp only at HD ⊢
            go_enter Tryz.func188, Tryz.ntmps188
            go_wp2_with fail
            refine (HT.out _).mono ?_
            rintro e w1 ⟨rfl, rfl⟩
            go_wp2_with fail
            refine (HD.out _).mono ?_
            rintro e w2 ⟨v, rfl, ⟨nv, rfl, hon⟩, hr2, ho2⟩
            have hsz2 := ho2.size
            have HON := hide hon
            have HR2 := hide hr2
            have HO2 := hide (HOA.out.trans ho2 (fun _ _ h => h))
            have HRN : Hid (ResN w2 w.heap.size) := HRES.out.only ho2 (by omega)
            obtain ⟨⟨q0, q1, q2, q3⟩, f0, f1, f2, f3⟩ := HRN.out.all
            clear hon hr2 ho2
            unfold NVal.val ndV
            go_wp2
            refine bodyPost_ret (v := nv.val) (by simp [results, Tryz.results188, go_sem, q0, q1, q2, q3, NVal.val, ndV]) rfl ?_
            refine ⟨_, rfl, vn_set HON.out (by omega) (p := w.heap.size) (by omega) (only4 _ _ _ _ _ _), ?_, ?_⟩
            · exact HR2.out.only (((((Below.refl N _).setCell hN1 _).setCell hN1 _).setCell hN1 _).setCell hN1 _)
            · exact only_set4 HO2.out (Nat.le_refl _) _ _ _ _
      · by_cases c4 : textF ws = sAnd ∨ textF ws = sOr
        · have e : oneStep E d call one ws = .error (atF E ws, 20) := by unfold oneStep; rw [if_neg c1, if_neg c2, if_neg c3, if_pos c4]
          rw [e]
          have HF : Hid (∀ o, Calls Tryz.prog 107 #[.pointer (some ⟨R, 0, none⟩), .int .i64 20] (w.alloc o) fun e w' => e = .returned (.agg #[.int .i64 (atF E ws), .int .i64 20]) ∧ Below (w.alloc o).heap.size (w.alloc o) w') := fun o => fault_any (h.below (below_new4 o)) 20
          clear h hp hc hPn hPm hP0 hPt e c1 c2 c3
          rcases c4 with c | c
          all_goals
            rw [c] at HT
            first | unfold sAnd at HT | unfold sOr at HT
            clear c
            go_enter Tryz.func188, Tryz.ntmps188
            go_wp2_with fail
            refine (HT.out _).mono ?_
            rintro e w1 ⟨rfl, rfl⟩
            go_wp2_with fail
            refine (HF.out _).mono ?_
            rintro e w2 ⟨rfl, hb⟩
            have HO2 := hide (HOA.out.trans (Only.below hb) (fun _ _ h => h))
            clear hb
            go_wp2
            exact ⟨rfl, rfl, HO2.out⟩
        · have e : oneStep E d call one ws = refP (nameP E ws) := by unfold oneStep; rw [if_neg c1, if_neg c2, if_neg c3, if_neg c4]
          rw [e]
          have HD : Hid (∀ o, Calls Tryz.prog 135 #[.pointer (some ⟨R, 0, none⟩)] (w.alloc o) (PE R E d B N (nameP E ws) VS (w.alloc o))) := fun o => name_any (h.below (below_new4 o))
          simp only [isCall, not_or] at c3 c4
          obtain ⟨m1, m2, m3, m4, m5, m6⟩ := c3
          obtain ⟨m7, m8⟩ := c4
          have n1 := str_ne2 [110, 111, 116] c1
          have n2 := str_ne2 [40] c2
          have n3 := str_ne2 [119, 101, 101, 107] m1
          have n4 := str_ne2 [100, 97, 116, 101, 115] m2
          have n5 := str_ne2 [109, 111, 110, 116, 104] m3
          have n6 := str_ne2 [110, 116, 104] m4
          have n7 := str_ne2 [119, 111, 114, 107] m5
          have n8 := str_ne2 [102, 105, 115, 99, 97, 108] m6
          have n9 := str_ne2 [97, 110, 100] m7
          have n10 := str_ne2 [111, 114] m8
          clear h hp hc hPn hPm hP0 hPt e c1 c2 m1 m2 m3 m4 m5 m6 m7 m8
          generalize textF ws = y at *
          generalize nameP E ws = q at *
          cases q with
          | error f =>
            unfold PE Ends at HD
            unfold refP PE Ends
            simp only at HD ⊢
            go_enter Tryz.func188, Tryz.ntmps188
            go_wp2_with fail
            refine (HT.out _).mono ?_
            rintro e w1 ⟨rfl, rfl⟩
            go_wp2_with fail
            refine (HD.out _).mono ?_
            rintro e w2 ⟨rfl, ho2⟩
            have HO2 := hide (HOA.out.trans ho2 (fun _ _ h => h))
            clear ho2
            go_wp2
            exact ⟨rfl, rfl, HO2.out⟩
          | ok p =>
            obtain ⟨nm, r'⟩ := p
            unfold PE Ends VS at HD
            unfold refP PE Ends
            simp only at HD ⊢
            go_enter Tryz.func188, Tryz.ntmps188
            go_wp2_with fail
            refine (HT.out _).mono ?_
            rintro e w1 ⟨rfl, rfl⟩
            go_wp2_with fail
            refine (HD.out _).mono ?_
            rintro e w2 ⟨v, rfl, rfl, hr2, ho2⟩
            have hsz2 := ho2.size
            have HR2 := hide hr2
            have HO2 := hide (HOA.out.trans ho2 (fun _ _ h => h))
            have HRN : Hid (ResN w2 w.heap.size) := HRES.out.only ho2 (by omega)
            obtain ⟨⟨q0, q1, q2, q3⟩, f0, f1, f2, f3⟩ := HRN.out.all
            clear hr2 ho2
            go_wp2
            refine bodyPost_ret (v := NVal.val ⟨10, none, 0, 0, none, 0, 0, nm⟩) (by simp [results, Tryz.results188, go_sem, q0, q1, q2, q3, NVal.val, ndV]) rfl ?_
            refine ⟨_, rfl, vn_ref nm, ?_, ?_⟩
            · exact HR2.out.only (((((Below.refl N _).setCell hN1 _).setCell hN1 _).setCell hN1 _).setCell hN1 _)
            · exact only_set4 HO2.out (Nat.le_refl _) _ _ _ _
end Go.Proofs.YtkpgfhapffijkaaGreatDoor

/- Package jdl: lists of nodes. -/
namespace Go.Proofs.YtkpgfhapffijkaaGreatDoor
open Go.ChangeShapes Go.WideShapes Go.ChangeAt Go.RowKit Go.DsMem Go.DsLx Go.DsJd Go.DsMk
set_option linter.unusedVariables false
theorem infoEx : (Tryz.prog.info? 52).map (fun i => (i.zero, i.size, i.bytes)) = some (some (.agg #[.int .i64 0, .string ⟨#[]⟩, .int .i64 0, .slice none 0 0]), 4, 56) := by kernel_rfl
/-- a node of one's own -/
def VE (w : World) (t : Ex) (v : Value) (w' : World) : Prop := ∃ nv : EVal, v = nv.val ∧ ExOn (fun b => w.heap.size ≤ b ∧ b < w'.heap.size) w' nv t
theorem VE.since {w0 w w1 : World} {t : Ex} {v : Value} (h : VE w t v w1) (hs : w0.heap.size ≤ w.heap.size) : VE w0 t v w1 := by
  obtain ⟨nv, e, hn⟩ := h
  exact ⟨nv, e, hn.mono (fun b hb => ⟨Nat.le_trans hs hb.1, hb.2⟩) (fun a u _ hc => hc)⟩
/-- nodes read so far -/
structure LeSt (w wr : World) (R : Nat) (acc : List Ex) (uo : Option Addr) (uc : Nat) (K : Nat → EVal) : Prop where
  row : wr.ownsRow w.heap.size 52 4 (.slice uo acc.length uc) acc.length (rowE K acc.length)
  sub : ∀ j (hj : j < acc.length), ExOn (fun b => w.heap.size ≤ b ∧ b < wr.heap.size ∧ (Value.slice uo acc.length uc).ownBlock ≠ some b) wr (K j) acc[j]
  only : Only (· = R) w wr
theorem LeSt.moved {w wr w' : World} {R : Nat} {acc : List Ex} {uo : Option Addr} {uc : Nat} {K : Nat → EVal} (h : LeSt w wr R acc uo uc K) (ho : Only (· = R) wr w') (hR : R < w.heap.size) : LeSt w w' R acc uo uc K := by
  have hlt := h.row.lt
  refine ⟨own_same4 h.row (fun k hk => ho.block k (hlt k hk).2 (by have := (hlt k hk).1; omega)), fun j hj => (h.sub j hj).mono (fun b hb => ⟨hb.1, Nat.lt_of_lt_of_le hb.2.1 ho.size, hb.2.2⟩) (fun a u hB hc => ho.cell hc (by omega)), h.only.trans ho (fun _ _ e => e)⟩
theorem LeSt.step {w wr w1 w2 : World} {R : Nat} {acc : List Ex} {uo : Option Addr} {uc : Nat} {K : Nat → EVal} {a : Ex} {nv : EVal} {g cap : Nat} (h : LeSt w wr R acc uo uc K) (hR : R < w.heap.size)
    (ho1 : Only (· = R) wr w1) (hon : ExOn (fun b => wr.heap.size ≤ b ∧ b < w1.heap.size) w1 nv a) (o : Obj)
    (hown : w2.ownsRow w.heap.size 52 4 (.slice (some ⟨g, 0, none⟩) (acc.length + 1) cap) (acc.length + 1) (rowE K acc.length ++ evC nv)) (hgr : (w1.alloc o).grownBy w2 (Value.slice uo acc.length uc).ownBlock)
    (hat : (Value.slice uo acc.length uc).ownBlock = some g ∨ g = w1.heap.size + 1) :
    LeSt w w2 R (acc ++ [a]) (some ⟨g, 0, none⟩) cap (fun j => if j = acc.length then nv else K j) := by
  have hs0 := h.only.size
  have hs1 := ho1.size
  have hsA : (w1.alloc o).heap.size = w1.heap.size + 1 := by simp
  have hs2 := hgr.size
  have hrow : ∀ k, (Value.slice uo acc.length uc).ownBlock = some k → w.heap.size ≤ k ∧ k < wr.heap.size := h.row.lt
  have hA : Only (fun k => (Value.slice uo acc.length uc).ownBlock = some k) w1 w2 := (Only.alloc _ w1 o).trans (Only.grown hgr) (fun i _ hi => hi)
  have hB : Only (fun k => k = R ∨ (Value.slice uo acc.length uc).ownBlock = some k) wr w2 := (ho1.mono (fun i _ e => .inl e)).trans hA (fun i _ e => .inr e)
  have hl : (acc ++ [a]).length = acc.length + 1 := by simp
  refine ⟨?_, ?_, ?_⟩
  · have : rowE (fun j => if j = acc.length then nv else K j) (acc.length + 1) = rowE K acc.length ++ evC nv := by
      rw [rowE, rowE_cong acc.length (K' := K) (fun j hj => if_neg (by omega))]; simp
    rw [hl, this]
    exact hown
  · intro j hj
    by_cases e : j = acc.length
    · subst e
      simp only [if_true, List.getElem_append_right (Nat.le_refl _), Nat.sub_self, List.getElem_cons_zero]
      refine hon.mono (fun b hb => ⟨by omega, by omega, ?_⟩) (fun ad u hB' hc => hA.cell hc (fun e => by have := hrow _ e; omega))
      show some g ≠ some b
      intro e
      obtain rfl := Option.some.inj e
      rcases hat with c | c
      · have := hrow _ c; omega
      · omega
    · have hj' : j < acc.length := by omega
      simp only [if_neg e, List.getElem_append_left hj']
      have h1 : ∀ b, (w.heap.size ≤ b ∧ b < wr.heap.size ∧ (Value.slice uo acc.length uc).ownBlock ≠ some b) → (w.heap.size ≤ b ∧ b < w2.heap.size ∧ (Value.slice (some ⟨g, 0, none⟩) (acc ++ [a]).length cap).ownBlock ≠ some b) := fun b hb => by
        refine ⟨hb.1, by omega, ?_⟩
        show some g ≠ some b
        intro e
        obtain rfl := Option.some.inj e
        rcases hat with c | c
        · exact hb.2.2 c
        · omega
      refine (h.sub j hj').mono h1 (fun ad u hB' hc => hB.cell hc (fun e => ?_))
      rcases e with e | e
      · omega
      · exact hB'.2.2 e
  · exact h.only.trans hB (fun i hi e => by
      rcases e with e | e
      · exact e
      · have := (hrow _ e).1; omega)
/-- nodes of one's own -/
def VLE (w : World) (l : List Ex) (v : Value) (w' : World) : Prop := ∃ uo uc K, v = .slice uo l.length uc ∧ w'.ownsRow w.heap.size 52 4 v l.length (rowE K l.length) ∧ ∀ j (hj : j < l.length), ExOn (fun b => w.heap.size ≤ b ∧ b < w'.heap.size) w' (K j) l[j]
theorem LeSt.out {w wr : World} {R : Nat} {acc : List Ex} {uo : Option Addr} {uc : Nat} {K : Nat → EVal} (h : LeSt w wr R acc uo uc K) : VLE w acc (.slice uo acc.length uc) wr :=
  ⟨uo, uc, K, rfl, h.row, fun j hj => (h.sub j hj).mono (fun b hb => ⟨hb.1, hb.2.1⟩) (fun a u _ hc => hc)⟩
end Go.Proofs.YtkpgfhapffijkaaGreatDoor

/- Package jdl: the walk of list at nodes. -/
namespace Go.Proofs.YtkpgfhapffijkaaGreatDoor
open Go.ChangeShapes Go.WideShapes Go.ChangeAt Go.RowKit Go.DsMem Go.DsLx Go.DsJd Go.DsMk
set_option linter.unusedVariables false
set_option maxHeartbeats 4000000 in
set_option maxRecDepth 20000 in
/-- jdl.list[jdl.Expr] -/
theorem listE {w : World} {R : Nat} {E d : Int} {B N : Nat} {ws : List Tk} (h : Rdr w R E d B N ws) (K : Nat) (first cap : Array Value) (part : List Tk → Except Fl (Ex × List Tk)) (sep : ByteArray) (hsep : sep ≠ ⟨#[]⟩) (M : Nat) (hM : M ≤ 100000) (P : List Tk → Prop) (hP0 : P ws) (hPn : ∀ ws a r, P ws → part ws = .ok (a, r) → P r ∧ P r.tail)
    (hcf : CF K) (hp : ∀ w ws, P ws → Rdr w R E d B N ws → Calls Tryz.prog K (first ++ cap) w (PE R E d B N (part ws) VE w)) :
    Calls Tryz.prog 218 #[.pointer (some ⟨R, 0, none⟩), .string sep, .int .i64 M, .func (.func K) first cap] w (PE R E d B N (listP E sep part M ws) VLE w) := by
  have HP := hide hp
  have hcf' := hcf (first ++ cap)
  have HPN := hide hPn
  have HP0 := hide hP0
  obtain ⟨hN1, hN2⟩ := h.n
  have HR0 := hide h
  obtain ⟨Q, hQ⟩ : ∃ Q, listP E sep part M ws = Q := ⟨_, rfl⟩
  have HQ : Hid (accP [] (listP E sep part M ws) = Q) := by
    refine hide ?_
    rw [← hQ]
    cases listP E sep part M ws with
    | error f => rfl
    | ok p => rfl
  rw [hQ]
  clear h hp hcf hPn hP0 hQ
  obtain ⟨i0, hi0, hz0, hz1, hz2⟩ := info_parts infoEx
  go_enter Tryz.func218, Tryz.ntmps218
  go_wp2_with fail
  go_loopw [9] (fun tl wr => ∃ (acc : List Ex) (K' : Nat → EVal) (uo : Option Addr) (uc : Nat) (us : List Tk), acc.length ≤ M ∧ tl = .slice uo acc.length uc ∧ P us ∧ LeSt w wr R acc uo uc K' ∧ Rdr wr R E d B N us ∧ accP acc (listP E sep part (M - acc.length) us) = Q) (fun tl _ => M - slLen tl)
  case atStart => exact ⟨[], fun _ => ⟨0, ⟨#[]⟩, 0, none, 0, 0⟩, none, 0, ws, Nat.zero_le _, rfl, HP0.out, ⟨World.ownsRow_nil _ _ _ _, fun j hj => by simp at hj, Only.refl _ _⟩, HR0.out, HQ.out⟩
  case round =>
    obtain ⟨acc, K', uo, uc, us, hal, rfl, hPu, hst, hrd, hq⟩ := hrel
    have HST := hide hst
    have HRD := hide hrd
    have ho := hst.only
    have HO := hide ho
    have HQ2 := hide hq
    have HPU := hide hPu
    have hws := ho.size
    clear hst hrd ho hq hPu
    have HRM := hide (room_any HRD.out acc.length M)
    by_cases hfull : M ≤ acc.length
    · have e : roomP E us acc.length M = .error (atF E us, 4) := by unfold roomP; rw [if_pos (by omega)]
      have hQe : Q = .error (atF E us, 4) := by
        rw [← HQ2.out, show M - acc.length = 0 by omega]; exact acc_full E sep part acc us
      have HQE := hide hQe
      rw [e] at HRM
      unfold Ends at HRM
      clear e hQe
      go_wp2_with fail
      refine HRM.out.mono ?_
      rintro e w1 ⟨rfl, ho1⟩
      have HO1 := hide (HO.out.trans ho1 (fun _ _ h => h))
      clear ho1
      go_wp2
      refine ⟨rfl, ?_⟩
      rw [HQE.out]
      exact ⟨rfl, HO1.out⟩
    · have e : roomP E us acc.length M = .ok () := by unfold roomP; rw [if_neg (by omega)]
      rw [e] at HRM
      unfold Ends at HRM
      clear e
      obtain ⟨n, hn⟩ : ∃ n, M - acc.length = n + 1 := ⟨M - acc.length - 1, by omega⟩
      rw [hn] at HQ2
      have HPP := hide (fun w h => HP.out w us HPU.out h)
      have HPX := hide (fun a r => HPN.out us a r HPU.out)
      obtain ⟨q, hq⟩ : ∃ q, part us = q := ⟨_, rfl⟩
      rw [hq] at HPP HPX
      cases q with
      | error f =>
        have HQE : Hid (Q = .error f) := by refine hide ?_; rw [← HQ2.out]; exact acc_bad acc n hq
        unfold PE Ends at HPP
        simp only at HPP
        clear hq
        go_wp2_with fail
        refine HRM.out.mono ?_
        rintro e w1 ⟨rfl, rfl⟩
        go_wp2_with fail
        refine (HPP.out w1 HRD.out).mono ?_
        rintro e w2 ⟨rfl, ho2⟩
        have HO2 := hide (HO.out.trans ho2 (fun _ _ h => h))
        clear ho2
        go_wp2
        refine ⟨rfl, ?_⟩
        rw [HQE.out]
        exact ⟨rfl, HO2.out⟩
      | ok p =>
        obtain ⟨a, r⟩ := p
        obtain ⟨hp1, hp2⟩ := HPX.out a r rfl
        have HP1 := hide hp1
        have HP2 := hide hp2
        unfold PE Ends at HPP
        simp only at HPP
        have HEND : Hid (¬ textF r = sep → Q = .ok (acc ++ [a], r)) := fun hs => by rw [← HQ2.out]; exact acc_end acc n hq hs
        have HMORE : Hid (textF r = sep → accP (acc ++ [a]) (listP E sep part n r.tail) = Q) := fun hs => by rw [← HQ2.out]; exact (acc_more acc n hq hs).symm
        clear hq hp1 hp2 HPX
        go_wp2_with fail
        refine HRM.out.mono ?_
        rintro e w1 ⟨rfl, rfl⟩
        go_wp2_with fail
        refine (HPP.out w1 HRD.out).mono ?_
        rintro e w2 ⟨v, rfl, ⟨nv, rfl, hon⟩, hr2, ho2⟩
        have HR2 := hide hr2
        have hs2 := ho2.size
        have hlt2 : ∀ k, (Value.slice uo acc.length uc).ownBlock = some k → w.heap.size ≤ k ∧ k < w1.heap.size := HST.out.row.lt
        have HSTEP : Hid (∀ (w3 : World) (g cap : Nat) (ob : Obj), w3.ownsRow w.heap.size 52 4 (.slice (some ⟨g, 0, none⟩) (acc.length + 1) cap) (acc.length + 1) (rowE K' acc.length ++ evC nv) → (w2.alloc ob).grownBy w3 (Value.slice uo acc.length uc).ownBlock → ((Value.slice uo acc.length uc).ownBlock = some g ∨ g = w2.heap.size + 1) →
            LeSt w w3 R (acc ++ [a]) (some ⟨g, 0, none⟩) cap (fun j => if j = acc.length then nv else K' j)) := fun w3 g cap ob h1 h2 h3 => HST.out.step (by omega) ho2 hon ob h1 h2 h3
        have HROW : Hid (∀ ob, (w2.alloc ob).ownsRow w.heap.size 52 4 (.slice uo acc.length uc) acc.length (rowE K' acc.length)) := fun ob =>
          own_same4 HST.out.row (fun k hk => by
            have := hlt2 k hk
            rw [((Below.refl w2.heap.size w2).alloc (Nat.le_refl _) ob).block k (by omega)]
            exact ho2.block k this.2 (by omega))
        have HO2 := hide (HO.out.trans ho2 (fun _ _ h => h))
        clear hr2 ho2 hon
        unfold EVal.val exV
        go_wp2_with (at_builtin; refine Hid.out ?_)
        refine hide ?_
        refine wpList_append_lies _ rfl _ _ 50 rfl w.heap.size 52 i0 _ 4 56 Tryz.underlying50 hi0 hz0 hz1 hz2 rfl (by decide) _ acc.length _ rfl (HROW.out _) ⟨w2.heap.size, 0, none⟩ 1 1 (evC nv) rfl rfl (World.news_of_block (cs := (evC nv).toArray) (t := 52) (fr := (0, 0)) (heap_alloc_new w2 _)) (evC_one nv) (by omega) (by unfold maxLen; omega) (by omega) (by simp; omega) (w2.heap.size + 1) (by simp) ?_
        intro g cap w3 hown3 hgr hat3 _
        have HST3 := hide (HSTEP.out w3 g cap _ hown3 hgr hat3)
        have hl1 : (acc ++ [a]).length = acc.length + 1 := by simp
        have HR3 : Hid (Rdr w3 R E d B N r) := by
          refine hide ((HR2.out.below ((Below.refl _ _).alloc (Nat.le_refl _) _)).only ((Only.grown hgr).toBelow (by simp; omega) (fun i e => by have := (hlt2 i e).1; omega)))
        have HO3 : Hid (Only (· = R) w w3) := HST3.out.only
        clear hown3 hgr hat3 hlt2 HR2 HSTEP HROW
        by_cases hs : textF r = sep
        · have HM2 := hide (HMORE.out hs)
          cases r with
          | nil => exact absurd hs.symm hsep
          | cons t r' =>
            simp only [textF] at hs
            have HTK := hide (take_yes HR3.out)
            rw [hs] at HTK
            simp only [List.tail_cons] at HM2 HP2
            go_wp2_with fail
            refine HTK.out.mono ?_
            rintro e w4 ⟨rfl, hr4, ho4⟩
            have HR4 := hide hr4
            have HO4 := hide (HO3.out.trans ho4 (fun _ _ h => h))
            have HST4 := hide (HST3.out.moved ho4 (by omega))
            clear hr4 ho4
            go_wp2
            go_roundw
            case rel => exact ⟨acc ++ [a], _, some ⟨g, 0, none⟩, cap, r', by simp; omega, by rw [hl1], HP2.out, HST4.out, HR4.out, by rw [show M - (acc ++ [a]).length = n by simp; omega]; exact HM2.out⟩
            case measure => simp [slLen]; omega
        · have HE2 := hide (HEND.out hs)
          have HTK := hide (take_no HR3.out hs)
          go_wp2_with fail
          refine HTK.out.mono ?_
          rintro e w4 ⟨rfl, rfl⟩
          go_wp2
          go_ret
          rw [HE2.out]
          have h5 := HST3.out.out
          rw [hl1] at h5
          exact ⟨_, rfl, h5, HR3.out, HO3.out⟩
end Go.Proofs.YtkpgfhapffijkaaGreatDoor

/- Package jdl: nodes joined, brackets and nots. -/
namespace Go.DsJd
open Go.DsLx Go.DsMk
def joinE (op : Int) (l : List Ex) : Ex := match l with | [x] => x | _ => .mk op ⟨#[]⟩ 0 l
theorem joinE_one {op : Int} {l : List Ex} (h : l.length = 1) : joinE op l = l[0] := by
  match l, h with
  | [x], _ => rfl
theorem joinE_more {op : Int} {l : List Ex} (h : ¬ l.length = 1) : joinE op l = .mk op ⟨#[]⟩ 0 l := by
  match l, h with
  | [], _ => rfl
  | [x], h => exact absurd rfl h
  | x :: y :: r, _ => rfl
end Go.DsJd
namespace Go.Proofs.YtkpgfhapffijkaaGreatDoor
open Go.ChangeShapes Go.WideShapes Go.ChangeAt Go.RowKit Go.DsMem Go.DsLx Go.DsJd Go.DsMk
set_option linter.unusedVariables false
set_option maxHeartbeats 2000000 in
set_option maxRecDepth 20000 in
/-- jdl.joinedConds -/
theorem joinedConds_any {w0 w : World} {l : List Ex} {v : Value} (op : Int) (h : VLE w0 l v w) (hl : l.length ≤ 100000) (hw : w0.heap.size ≤ w.heap.size) : Calls Tryz.prog 217 #[.int .i64 op, v] w fun e w' => ∃ v', e = .returned v' ∧ VE w0 (joinE op l) v' w' ∧ Below w.heap.size w w' := by
  obtain ⟨uo, uc, K, rfl, hrow, hsub⟩ := h
  by_cases h1 : l.length = 1
  · have HJ := hide (joinE_one (op := op) h1)
    have hg : ∃ g, uo = some ⟨g, 0, none⟩ ∧ l.length ≤ uc ∧ g < w.heap.size := by
      rcases hrow.2 with ⟨_, h0⟩ | ⟨g, cap, cur, e, _, hg, hc, _⟩
      · omega
      · simp only [Value.slice.injEq] at e
        obtain ⟨rfl, -, rfl⟩ := e
        exact ⟨g, rfl, hc, block_lt hg⟩
    obtain ⟨g, rfl, hc, hg⟩ := hg
    have hin := rowEx hrow 0 (by omega)
    have HS : Hid (∀ w', Below w.heap.size w w' → VE w0 (joinE op l) (K 0).val w') := fun w' hb => by
      rw [HJ.out]
      exact ⟨K 0, rfl, (hsub 0 (by omega)).mono (fun b hb' => ⟨hb'.1, by have := hb.size; omega⟩) (fun a u _ hcc => Below.keeps hb (Nat.le_refl _) hcc)⟩
    obtain ⟨c0, c1, c2, c3⟩ := hin
    simp only [Nat.zero_mul, Nat.zero_add] at c0 c1 c2 c3
    have x0 := fun ob : Obj => Below.keeps (below_new4 ob) (Nat.le_refl _) c0
    have x1 := fun ob : Obj => Below.keeps (below_new4 ob) (Nat.le_refl _) c1
    have x2 := fun ob : Obj => Below.keeps (below_new4 ob) (Nat.le_refl _) c2
    have x3 := fun ob : Obj => Below.keeps (below_new4 ob) (Nat.le_refl _) c3
    clear hrow hsub c0 c1 c2 c3
    rw [h1] at *
    generalize K 0 = nv at *
    go_enter Tryz.func217, Tryz.ntmps217
    go_wp2
    refine bodyPost_ret (v := nv.val) (by simp [results, Tryz.results217, go_sem, EVal.val, exV]) rfl ?_
    exact ⟨_, rfl, HS.out _ (below_new4 _), below_new4 _⟩
  · have HJ := hide (joinE_more (op := op) h1)
    have HS : Hid (∀ w', Below w.heap.size w w' → VE w0 (joinE op l) (EVal.val ⟨op, ⟨#[]⟩, 0, uo, l.length, uc⟩) w') := fun w' hb => by
      rw [HJ.out]
      refine ⟨_, rfl, ?_⟩
      have hsz := hb.size
      rcases hrow.2 with ⟨e, h0⟩ | ⟨g, cap, cur, e, hgb, hg, hc, _⟩
      · have hl0 : l.length = 0 := h0
        exact .mk op ⟨#[]⟩ 0 l uo uc 0 K (by omega) (by omega) (fun h => by omega) (fun h => by omega) (fun j hj => by omega) (fun j hj => by omega)
      · simp only [Value.slice.injEq] at e
        obtain ⟨rfl, -, rfl⟩ := e
        refine .mk op ⟨#[]⟩ 0 l (some ⟨g, 0, none⟩) uc g K (by omega) hc (fun _ => rfl) (fun _ => ⟨hgb, by have := block_lt hg; omega⟩) (fun j hj => (rowEx hrow j hj).mono (fun a u hcc => Below.keeps hb (Nat.le_refl _) hcc)) (fun j hj => ?_)
        exact (hsub j hj).mono (fun b hb' => ⟨hb'.1, by omega⟩) (fun a u _ hcc => Below.keeps hb (Nat.le_refl _) hcc)
    have h1' : ((l.length : Int) == 1) = false := by simp; omega
    clear hrow hsub
    go_enter Tryz.func217, Tryz.ntmps217
    go_wp2
    refine bodyPost_ret (v := EVal.val ⟨op, ⟨#[]⟩, 0, uo, l.length, uc⟩) (by simp [results, Tryz.results217, go_sem, EVal.val, exV]) rfl ?_
    exact ⟨_, rfl, HS.out _ (below_new4 _), below_new4 _⟩
end Go.Proofs.YtkpgfhapffijkaaGreatDoor

/- Package jdl: brackets and nots around nodes. -/
namespace Go.Proofs.YtkpgfhapffijkaaGreatDoor
open Go.ChangeShapes Go.WideShapes Go.ChangeAt Go.RowKit Go.DsMem Go.DsLx Go.DsJd Go.DsMk
set_option linter.unusedVariables false
/-- a node's cell, still empty -/
def ResE (w : World) (p : Nat) : Prop := w.heap[p]? = some (.cells #[.int .i64 0, .string ⟨#[]⟩, .int .i64 0, .slice none 0 0] 52 (0, 0))
theorem ResE.all {w : World} {p : Nat} (h : ResE w p) : (w.cell? ⟨p, 0, none⟩ = some (.int .i64 0) ∧ w.cell? ⟨p, 1, none⟩ = some (.string ⟨#[]⟩) ∧ w.cell? ⟨p, 2, none⟩ = some (.int .i64 0) ∧ w.cell? ⟨p, 3, none⟩ = some (.slice none 0 0)) ∧ w.frozen? ⟨p, 0, none⟩ = false ∧ w.frozen? ⟨p, 1, none⟩ = false ∧ w.frozen? ⟨p, 2, none⟩ = false ∧ w.frozen? ⟨p, 3, none⟩ = false :=
  ⟨⟨by rw [cell_of h]; rfl, by rw [cell_of h]; rfl, by rw [cell_of h]; rfl, by rw [cell_of h]; rfl⟩, frozen_of h, frozen_of h, frozen_of h, frozen_of h⟩
theorem ResE.only {w w' : World} {p R : Nat} (h : ResE w p) (ho : Only (· = R) w w') (hp : p ≠ R) : ResE w' p := by
  unfold ResE
  rw [ho.block p (block_lt h) hp]; exact h
set_option maxHeartbeats 4000000 in
set_option maxRecDepth 20000 in
/-- jdl.deeper[jdl.Expr] -/
theorem deeperE {w : World} {R : Nat} {E d : Int} {B N : Nat} {t : Tk} {r : List Tk} (h : Rdr w R E d B N (t :: r)) (hd0 : 0 ≤ d) (hd1 : d ≤ 16) (K : Nat) (first cap : Array Value) (part : List Tk → Except Fl (Ex × List Tk))
    (hcf : CF K) (hp : d < 16 → ∀ w, Rdr w R E (d + 1) B N r → Calls Tryz.prog K (first ++ cap) w (PE R E (d + 1) B N (part r) VE w)) :
    Calls Tryz.prog 237 #[.pointer (some ⟨R, 0, none⟩), .func (.func K) first cap] w (PE R E d B N (deepP E d part (t :: r)) VE w) := by
  obtain ⟨hN1, hN2⟩ := h.n
  obtain ⟨wA, hwA⟩ : ∃ wA, wA = w.alloc (.cells #[.int .i64 0, .string ⟨#[]⟩, .int .i64 0, .slice none 0 0] 52) := ⟨_, rfl⟩
  have HRA : Hid (Rdr wA R E d B N (t :: r)) := by rw [hwA]; exact hide (h.below (below_new4 _))
  have HRES : Hid (ResE wA w.heap.size) := by rw [hwA]; exact hide (heap_alloc_new w _)
  have HOA : Hid (Only (· = R) w wA) := by rw [hwA]; exact hide (Only.alloc _ _ _)
  have hzA : wA.heap.size = w.heap.size + 1 := by rw [hwA]; simp
  obtain ⟨x2, f2⟩ := rdr_cell2 HRA.out
  have hcf' := hcf (first ++ cap)
  have HP := hide hp
  by_cases hd : 16 ≤ d
  · have e : deepP E d part (t :: r) = .error (atF E (t :: r), 23) := by unfold deepP; rw [if_pos hd]
    rw [e]
    have HF := hide (fault_any HRA.out 23)
    clear h hp hcf e HP
    obtain rfl : d = 16 := by omega
    subst hwA
    go_enter Tryz.func237, Tryz.ntmps237
    go_wp2_with fail
    refine HF.out.mono ?_
    rintro e w2 ⟨rfl, hb⟩
    have HO := hide (HOA.out.trans (Only.below hb) (fun _ _ h => h))
    clear hb
    go_wp2
    exact ⟨rfl, rfl, HO.out⟩
  · have e : deepP E d part (t :: r) = part r := by unfold deepP; rw [if_neg hd]; rfl
    rw [e]
    have HS := hide (skip_any HRA.out)
    have HPP := hide (HP.out (by omega))
    clear h hp hcf e HP
    have hd' : d < 16 := by omega
    generalize part r = q at *
    subst hwA
    go_enter Tryz.func237, Tryz.ntmps237
    go_wp2_with fail
    refine HS.out.mono ?_
    rintro e w1 ⟨rfl, hr1, ho1⟩
    obtain ⟨y2, g2⟩ := rdr_cell2 hr1
    have HR1 := hide (rdr_deep hr1 (d + 1))
    have HO1 := hide ((HOA.out.trans ho1 (fun _ _ h => h)).trans (Only.set w1 R 2 (.int .i64 (d + 1))) (fun _ _ h => h))
    have HRES1 := hide ((HRES.out.only ho1 (by omega)).only (Only.set w1 R 2 (.int .i64 (d + 1))) (by omega))
    have hs1 := ho1.size
    have hzB : (w1.setCell ⟨R, 2, none⟩ (.int .i64 (d + 1))).heap.size = w1.heap.size := by simp [World.setCell]
    clear hr1 ho1
    go_wp2_with fail
    refine (HPP.out _ HR1.out).mono ?_
    intro e w2 hz
    cases q with
    | error f =>
      obtain ⟨rfl, ho2⟩ := hz
      have HO2 := hide (HO1.out.trans ho2 (fun _ _ h => h))
      clear ho2
      go_wp2
      exact ⟨rfl, rfl, HO2.out⟩
    | ok p =>
      obtain ⟨a, r2⟩ := p
      obtain ⟨v, rfl, ⟨nv, rfl, hon⟩, hr2, ho2⟩ := hz
      simp only at hon hr2
      have HON := hide hon
      have hsz2 := ho2.size
      rw [hzB] at hsz2
      obtain ⟨z2, k2⟩ := rdr_cell2 hr2
      have HO2 := hide (HO1.out.trans ho2 (fun _ _ h => h))
      have HR2 := hide hr2
      have HRN : Hid (ResE w2 w.heap.size) := HRES1.out.only ho2 (by omega)
      have z2' := fun ob : Obj => Below.keeps (below_new4 ob) (Nat.le_refl _) z2
      have k2' : ∀ ob, (w2.alloc ob).frozen? ⟨R, 2, none⟩ = false := fun ob => by
        obtain ⟨uo, uc, o, hh, _⟩ := hr2
        exact (past hh ob 2).2
      have q0 : ∀ ob, (w2.alloc ob).cell? ⟨w.heap.size, 0, none⟩ = some (.int .i64 0) := fun ob => (past HRN.out ob 0).1
      have f0 : ∀ ob, (w2.alloc ob).frozen? ⟨w.heap.size, 0, none⟩ = false := fun ob => (past HRN.out ob 0).2
      have q1 : ∀ ob, (w2.alloc ob).cell? ⟨w.heap.size, 1, none⟩ = some (.string ⟨#[]⟩) := fun ob => (past HRN.out ob 1).1
      have f1 : ∀ ob, (w2.alloc ob).frozen? ⟨w.heap.size, 1, none⟩ = false := fun ob => (past HRN.out ob 1).2
      have q2 : ∀ ob, (w2.alloc ob).cell? ⟨w.heap.size, 2, none⟩ = some (.int .i64 0) := fun ob => (past HRN.out ob 2).1
      have f2 : ∀ ob, (w2.alloc ob).frozen? ⟨w.heap.size, 2, none⟩ = false := fun ob => (past HRN.out ob 2).2
      have q3 : ∀ ob, (w2.alloc ob).cell? ⟨w.heap.size, 3, none⟩ = some (.slice none 0 0) := fun ob => (past HRN.out ob 3).1
      have f3 : ∀ ob, (w2.alloc ob).frozen? ⟨w.heap.size, 3, none⟩ = false := fun ob => (past HRN.out ob 3).2
      have hne : ¬ w.heap.size = R := by omega
      have hne' : ¬ R = w.heap.size := by omega
      clear hr2 ho2 hon z2 k2 x2
      unfold EVal.val exV
      go_wp2
      refine bodyPost_ret (v := nv.val) (by simp [results, Tryz.results237, go_sem, q0, q1, q2, q3, EVal.val, exV]) rfl ?_
      have hW : Only (fun k => k = R ∨ k = w.heap.size) w2 _ := ((((((Only.alloc _ w2 (.cells #[.int .i64 nv.op, .string nv.nm, .int .i64 nv.wh, .slice nv.ko nv.kl nv.kc] 52)).trans (Only.set _ R 2 (.int .i64 d)) (fun _ _ e => .inl e)).trans (Only.set _ w.heap.size 0 (.int .i64 nv.op)) (fun _ _ e => .inr e)).trans (Only.set _ w.heap.size 1 (.string nv.nm)) (fun _ _ e => .inr e)).trans (Only.set _ w.heap.size 2 (.int .i64 nv.wh)) (fun _ _ e => .inr e)).trans (Only.set _ w.heap.size 3 (.slice nv.ko nv.kl nv.kc)) (fun _ _ e => .inr e))
      refine ⟨_, rfl, ⟨nv, rfl, HON.out.mono (fun b hb => ⟨by omega, Nat.lt_of_lt_of_le hb.2 hW.size⟩) (fun ad u hB hc => hW.cell hc (by omega))⟩, ?_, ?_⟩
      · exact (rdr_deep (HR2.out.below (below_new4 _)) d).only (((((Below.refl N _).setCell hN1 _).setCell hN1 _).setCell hN1 _).setCell hN1 _)
      · exact only_set4 ((HO2.out.trans (Only.alloc _ _ _) (fun _ _ h => h)).trans (Only.set _ R 2 _) (fun _ _ h => h)) (Nat.le_refl _) _ _ _ _
end Go.Proofs.YtkpgfhapffijkaaGreatDoor

/- Package jdl: nodes in brackets. -/
namespace Go.Proofs.YtkpgfhapffijkaaGreatDoor
open Go.ChangeShapes Go.WideShapes Go.ChangeAt Go.RowKit Go.DsMem Go.DsLx Go.DsJd Go.DsMk
set_option linter.unusedVariables false
set_option maxHeartbeats 4000000 in
set_option maxRecDepth 20000 in
/-- jdl.bracketed[jdl.Expr] -/
theorem bracketedE {w : World} {R : Nat} {E d : Int} {B N : Nat} {t : Tk} {r : List Tk} (h : Rdr w R E d B N (t :: r)) (hd0 : 0 ≤ d) (hd1 : d ≤ 16) (K : Nat) (first cap : Array Value) (part : List Tk → Except Fl (Ex × List Tk))
    (hcf : CF K) (hp : d < 16 → ∀ w, Rdr w R E (d + 1) B N r → Calls Tryz.prog K (first ++ cap) w (PE R E (d + 1) B N (part r) VE w)) :
    Calls Tryz.prog 238 #[.pointer (some ⟨R, 0, none⟩), .func (.func K) first cap] w (PE R E d B N (thenP E ⟨#[41]⟩ (deepP E d part (t :: r))) VE w) := by
  obtain ⟨hN1, hN2⟩ := h.n
  have HD : Hid (∀ o, Calls Tryz.prog 237 #[.pointer (some ⟨R, 0, none⟩), .func (.func K) first cap] (w.alloc o) (PE R E d B N (deepP E d part (t :: r)) VE (w.alloc o))) := fun o => deeperE (h.below (below_new4 o)) hd0 hd1 K first cap part hcf hp
  have HM := hide (fun (w : World) (r : List Tk) (h : Rdr w R E d B N r) => must_any ⟨#[41]⟩ h (by decide))
  have HRES : Hid (ResE (w.alloc (.cells #[.int .i64 0, .string ⟨#[]⟩, .int .i64 0, .slice none 0 0] 52)) w.heap.size) := heap_alloc_new w _
  have HOA : Hid (Only (· = R) w (w.alloc (.cells #[.int .i64 0, .string ⟨#[]⟩, .int .i64 0, .slice none 0 0] 52))) := Only.alloc _ _ _
  have hzA : (w.alloc (.cells #[.int .i64 0, .string ⟨#[]⟩, .int .i64 0, .slice none 0 0] 52)).heap.size = w.heap.size + 1 := by simp
  clear h hp hcf
  generalize deepP E d part (t :: r) = q at *
  cases q with
  | error f =>
    unfold PE Ends at HD
    unfold PE Ends thenP
    simp only at HD ⊢
    go_enter Tryz.func238, Tryz.ntmps238
    go_wp2_with fail
    refine (HD.out _).mono ?_
    rintro e w2 ⟨rfl, ho2⟩
    have HO2 := hide (HOA.out.trans ho2 (fun _ _ h => h))
    clear ho2
    go_wp2
    exact ⟨rfl, rfl, HO2.out⟩
  | ok p =>
    obtain ⟨a, r'⟩ := p
    have HM2 := hide (fun (w : World) h => HM.out w r' h)
    have e : thenP E ⟨#[41]⟩ (.ok (a, r')) = (match mustP E ⟨#[41]⟩ r' with | .error f => .error f | .ok r2 => .ok (a, r2)) := rfl
    rw [e]
    clear HM e
    generalize mustP E ⟨#[41]⟩ r' = q2 at *
    unfold PE Ends at HD
    simp only at HD
    go_enter Tryz.func238, Tryz.ntmps238
    go_wp2_with fail
    refine (HD.out _).mono ?_
    rintro e w2 ⟨v, rfl, ⟨nv, rfl, hon⟩, hr2, ho2⟩
    have HON := hide hon
    have hsz2 := ho2.size
    have HR2 := hide hr2
    have HO2 := hide (HOA.out.trans ho2 (fun _ _ h => h))
    have HRN : Hid (ResE w2 w.heap.size) := HRES.out.only ho2 (by omega)
    clear hr2 ho2 hon
    unfold EVal.val exV
    go_wp2_with fail
    refine (HM2.out _ (HR2.out.below (below_new4 _))).mono ?_
    intro e w3 hz
    cases q2 with
    | error f =>
      obtain ⟨rfl, ho3⟩ := hz
      have HO3 := hide ((HO2.out.trans (Only.alloc _ _ _) (fun _ _ h => h)).trans ho3 (fun _ _ h => h))
      clear ho3
      go_wp2
      exact ⟨rfl, rfl, HO3.out⟩
    | ok r2 =>
      obtain ⟨rfl, hr3, ho3⟩ := hz
      have hsz3 := ho3.size
      have hzB : (w2.alloc (.cells #[.int .i64 nv.op, .string nv.nm, .int .i64 nv.wh, .slice nv.ko nv.kl nv.kc] 52)).heap.size = w2.heap.size + 1 := by simp
      rw [hzB] at hsz3
      have hbox : w3.heap[w2.heap.size]? = some (.cells #[.int .i64 nv.op, .string nv.nm, .int .i64 nv.wh, .slice nv.ko nv.kl nv.kc] 52 (0, 0)) := by
        rw [ho3.block w2.heap.size (by omega) (by omega)]; exact heap_alloc_new w2 _
      have z0 : w3.cell? ⟨w2.heap.size, 0, none⟩ = some (.int .i64 nv.op) := by rw [cell_of hbox]; rfl
      have z1 : w3.cell? ⟨w2.heap.size, 1, none⟩ = some (.string nv.nm) := by rw [cell_of hbox]; rfl
      have z2 : w3.cell? ⟨w2.heap.size, 2, none⟩ = some (.int .i64 nv.wh) := by rw [cell_of hbox]; rfl
      have z3 : w3.cell? ⟨w2.heap.size, 3, none⟩ = some (.slice nv.ko nv.kl nv.kc) := by rw [cell_of hbox]; rfl
      have HRN3 : Hid (ResE w3 w.heap.size) := by
        refine hide (ResE.only (w := w2.alloc (.cells #[.int .i64 nv.op, .string nv.nm, .int .i64 nv.wh, .slice nv.ko nv.kl nv.kc] 52)) ?_ ho3 (by omega))
        exact heap_keep' HRN.out
      obtain ⟨⟨q0, q1, q2, q3⟩, f0, f1, f2, f3⟩ := HRN3.out.all
      have HR3 := hide hr3
      have hW1 : Only (· = R) w2 w3 := (Only.alloc _ _ _).trans ho3 (fun _ _ h => h)
      have HW1 := hide hW1
      have HO3 := hide (HO2.out.trans hW1 (fun _ _ h => h))
      clear hr3 ho3 hbox hW1
      go_wp2
      refine bodyPost_ret (v := nv.val) (by simp [results, Tryz.results238, go_sem, q0, q1, q2, q3, EVal.val, exV]) rfl ?_
      have hW : Only (fun k => k = R ∨ k = w.heap.size) w2 _ := ((((HW1.out.mono (fun _ _ e => .inl e)).trans (Only.set w3 w.heap.size 0 (.int .i64 nv.op)) (fun _ _ e => .inr e)).trans (Only.set _ w.heap.size 1 (.string nv.nm)) (fun _ _ e => .inr e)).trans (Only.set _ w.heap.size 2 (.int .i64 nv.wh)) (fun _ _ e => .inr e)).trans (Only.set _ w.heap.size 3 (.slice nv.ko nv.kl nv.kc)) (fun _ _ e => .inr e)
      refine ⟨_, rfl, ⟨nv, rfl, HON.out.mono (fun b hb => ⟨by omega, Nat.lt_of_lt_of_le hb.2 hW.size⟩) (fun ad u hB hc => hW.cell hc (by omega))⟩, ?_, ?_⟩
      · exact HR3.out.only (((((Below.refl N _).setCell hN1 _).setCell hN1 _).setCell hN1 _).setCell hN1 _)
      · exact only_set4 HO3.out (Nat.le_refl _) _ _ _ _
end Go.Proofs.YtkpgfhapffijkaaGreatDoor

/- Package jdl: days of all kinds. Written by genk.py. -/
namespace Go.DsJd
open Go.DsLx Go.DsMk
/-- several parts, one alone stays as it is -/
def manyE (E : Int) (sep : ByteArray) (op : Int) (one : List Tk → Except Fl (Ex × List Tk)) (ws : List Tk) : Except Fl (Ex × List Tk) := match listP E sep one 8 ws with | .error f => .error f | .ok (l, r) => .ok (joinE op l, r)
theorem manyE_suf {E : Int} {sep : ByteArray} {op : Int} {one : List Tk → Except Fl (Ex × List Tk)} (hp : ∀ ws a r, one ws = .ok (a, r) → r <:+ ws) (ws : List Tk) (a : Ex) (r : List Tk) (h : manyE E sep op one ws = .ok (a, r)) : r <:+ ws := by
  unfold manyE at h
  split at h
  · cases h
  · rename_i l r2 h2
    cases h
    exact listP_suf hp _ _ _ _ h2
end Go.DsJd
namespace Go.Proofs.YtkpgfhapffijkaaGreatDoor
open Go.ChangeShapes Go.WideShapes Go.ChangeAt Go.RowKit Go.DsMem Go.DsLx Go.DsJd Go.DsMk
set_option linter.unusedVariables false
set_option maxHeartbeats 4000000 in
set_option maxRecDepth 20000 in
/-- (*jdl.reader).allConds -/
theorem allConds_any {w : World} {R : Nat} {E d : Int} {B N : Nat} {ws : List Tk} (h : Rdr w R E d B N ws) (one : List Tk → Except Fl (Ex × List Tk)) (P : List Tk → Prop) (hP0 : P ws) (hPn : ∀ ws a r, P ws → one ws = .ok (a, r) → P r ∧ P r.tail)
    (hp : ∀ w ws, P ws → Rdr w R E d B N ws → Calls Tryz.prog 234 #[.pointer (some ⟨R, 0, none⟩)] w (PE R E d B N (one ws) VE w)) :
    Calls Tryz.prog 219 #[.pointer (some ⟨R, 0, none⟩)] w (PE R E d B N (manyE E ⟨#[97, 110, 100]⟩ 2 one ws) VE w) := by
  obtain ⟨hN1, hN2⟩ := h.n
  have hmf : ∀ (fn : Fn) (first cap : Array Value) (w : World), (Instr.makeFunc fn first cap).run Tryz.prog w = .ok (.func fn first cap) w := fun _ _ _ _ => rfl
  have HL : Hid (∀ o, Calls Tryz.prog 218 #[.pointer (some ⟨R, 0, none⟩), .string ⟨#[97, 110, 100]⟩, .int .i64 8, .func (.func 234) #[.pointer (some ⟨R, 0, none⟩)] #[]] (w.alloc o) (PE R E d B N (listP E ⟨#[97, 110, 100]⟩ one 8 ws) VLE (w.alloc o))) := fun o =>
    listE (h.below (below_new4 o)) 234 #[.pointer (some ⟨R, 0, none⟩)] #[] one ⟨#[97, 110, 100]⟩ (by decide) 8 (by decide) P hP0 hPn (cf_of Tryz.func234 (by decide +kernel) (by kernel_rfl)) hp
  have HRES : Hid (ResE (w.alloc (.cells #[.int .i64 0, .string ⟨#[]⟩, .int .i64 0, .slice none 0 0] 52)) w.heap.size) := heap_alloc_new w _
  have HOA : Hid (Only (· = R) w (w.alloc (.cells #[.int .i64 0, .string ⟨#[]⟩, .int .i64 0, .slice none 0 0] 52))) := Only.alloc _ _ _
  have hzA : (w.alloc (.cells #[.int .i64 0, .string ⟨#[]⟩, .int .i64 0, .slice none 0 0] 52)).heap.size = w.heap.size + 1 := by simp
  have HLN := hide (listP_len E ⟨#[97, 110, 100]⟩ one 8 ws)
  unfold manyE
  clear h hp hPn hP0
  generalize listP E ⟨#[97, 110, 100]⟩ one 8 ws = q at *
  cases q with
  | error f =>
    unfold PE Ends at HL
    unfold PE Ends
    simp only at HL ⊢
    go_enter Tryz.func219, Tryz.ntmps219
    go_wp2_with fail
    refine (HL.out _).mono ?_
    rintro e w2 ⟨rfl, ho2⟩
    have HO2 := hide (HOA.out.trans ho2 (fun _ _ h => h))
    clear ho2
    go_wp2
    exact ⟨rfl, rfl, HO2.out⟩
  | ok p =>
    obtain ⟨l, r⟩ := p
    have hll := HLN.out l r rfl
    unfold PE Ends at HL
    unfold PE Ends
    simp only at HL ⊢
    go_enter Tryz.func219, Tryz.ntmps219
    go_wp2_with fail
    refine (HL.out _).mono ?_
    rintro e w2 ⟨v, rfl, hv, hr2, ho2⟩
    have hsz2 := ho2.size
    have HJ := hide (joinedConds_any (w0 := w.alloc (.cells #[.int .i64 0, .string ⟨#[]⟩, .int .i64 0, .slice none 0 0] 52)) 2 hv (by omega) (by omega))
    have HR2 := hide hr2
    have HO2 := hide (HOA.out.trans ho2 (fun _ _ h => h))
    have HRN : Hid (ResE w2 w.heap.size) := HRES.out.only ho2 (by omega)
    clear hr2 ho2 hv
    go_wp2_with fail
    refine HJ.out.mono ?_
    rintro e w3 ⟨v', rfl, ⟨nv, rfl, hon⟩, hb3⟩
    have hsz3 := hb3.size
    have HON := hide hon
    have HRN3 : Hid (ResE w3 w.heap.size) := by unfold ResE; rw [hb3.block _ (by omega)]; exact hide HRN.out
    have HR3 := hide (HR2.out.below hb3)
    have HO3 := hide (HO2.out.trans (Only.below hb3) (fun _ _ h => h))
    obtain ⟨⟨q0, q1, q2, q3⟩, f0, f1, f2, f3⟩ := HRN3.out.all
    clear hon hb3
    unfold EVal.val exV
    go_wp2
    refine bodyPost_ret (v := nv.val) (by simp [results, Tryz.results219, go_sem, q0, q1, q2, q3, EVal.val, exV]) rfl ?_
    have hW : Only (fun k => k = w.heap.size) w3 _ := (((Only.set w3 w.heap.size 0 (.int .i64 nv.op)).trans (Only.set _ w.heap.size 1 (.string nv.nm)) (fun _ _ e => e)).trans (Only.set _ w.heap.size 2 (.int .i64 nv.wh)) (fun _ _ e => e)).trans (Only.set _ w.heap.size 3 (.slice nv.ko nv.kl nv.kc)) (fun _ _ e => e)
    refine ⟨_, rfl, ⟨nv, rfl, HON.out.mono (fun b hb => ⟨by omega, Nat.lt_of_lt_of_le hb.2 hW.size⟩) (fun ad u hB hc => hW.cell hc (by omega))⟩, ?_, ?_⟩
    · exact HR3.out.only (((((Below.refl N _).setCell hN1 _).setCell hN1 _).setCell hN1 _).setCell hN1 _)
    · exact only_set4 HO3.out (Nat.le_refl _) _ _ _ _
set_option maxHeartbeats 4000000 in
set_option maxRecDepth 20000 in
/-- (*jdl.reader).cond -/
theorem cond_any {w : World} {R : Nat} {E d : Int} {B N : Nat} {ws : List Tk} (h : Rdr w R E d B N ws) (one : List Tk → Except Fl (Ex × List Tk)) (P : List Tk → Prop) (hP0 : P ws) (hPn : ∀ ws a r, P ws → one ws = .ok (a, r) → P r ∧ P r.tail)
    (hp : ∀ w ws, P ws → Rdr w R E d B N ws → Calls Tryz.prog 219 #[.pointer (some ⟨R, 0, none⟩)] w (PE R E d B N (one ws) VE w)) :
    Calls Tryz.prog 197 #[.pointer (some ⟨R, 0, none⟩)] w (PE R E d B N (manyE E ⟨#[111, 114]⟩ 3 one ws) VE w) := by
  obtain ⟨hN1, hN2⟩ := h.n
  have hmf : ∀ (fn : Fn) (first cap : Array Value) (w : World), (Instr.makeFunc fn first cap).run Tryz.prog w = .ok (.func fn first cap) w := fun _ _ _ _ => rfl
  have HL : Hid (∀ o, Calls Tryz.prog 218 #[.pointer (some ⟨R, 0, none⟩), .string ⟨#[111, 114]⟩, .int .i64 8, .func (.func 219) #[.pointer (some ⟨R, 0, none⟩)] #[]] (w.alloc o) (PE R E d B N (listP E ⟨#[111, 114]⟩ one 8 ws) VLE (w.alloc o))) := fun o =>
    listE (h.below (below_new4 o)) 219 #[.pointer (some ⟨R, 0, none⟩)] #[] one ⟨#[111, 114]⟩ (by decide) 8 (by decide) P hP0 hPn (cf_of Tryz.func219 (by decide +kernel) (by kernel_rfl)) hp
  have HRES : Hid (ResE (w.alloc (.cells #[.int .i64 0, .string ⟨#[]⟩, .int .i64 0, .slice none 0 0] 52)) w.heap.size) := heap_alloc_new w _
  have HOA : Hid (Only (· = R) w (w.alloc (.cells #[.int .i64 0, .string ⟨#[]⟩, .int .i64 0, .slice none 0 0] 52))) := Only.alloc _ _ _
  have hzA : (w.alloc (.cells #[.int .i64 0, .string ⟨#[]⟩, .int .i64 0, .slice none 0 0] 52)).heap.size = w.heap.size + 1 := by simp
  have HLN := hide (listP_len E ⟨#[111, 114]⟩ one 8 ws)
  unfold manyE
  clear h hp hPn hP0
  generalize listP E ⟨#[111, 114]⟩ one 8 ws = q at *
  cases q with
  | error f =>
    unfold PE Ends at HL
    unfold PE Ends
    simp only at HL ⊢
    go_enter Tryz.func197, Tryz.ntmps197
    go_wp2_with fail
    refine (HL.out _).mono ?_
    rintro e w2 ⟨rfl, ho2⟩
    have HO2 := hide (HOA.out.trans ho2 (fun _ _ h => h))
    clear ho2
    go_wp2
    exact ⟨rfl, rfl, HO2.out⟩
  | ok p =>
    obtain ⟨l, r⟩ := p
    have hll := HLN.out l r rfl
    unfold PE Ends at HL
    unfold PE Ends
    simp only at HL ⊢
    go_enter Tryz.func197, Tryz.ntmps197
    go_wp2_with fail
    refine (HL.out _).mono ?_
    rintro e w2 ⟨v, rfl, hv, hr2, ho2⟩
    have hsz2 := ho2.size
    have HJ := hide (joinedConds_any (w0 := w.alloc (.cells #[.int .i64 0, .string ⟨#[]⟩, .int .i64 0, .slice none 0 0] 52)) 3 hv (by omega) (by omega))
    have HR2 := hide hr2
    have HO2 := hide (HOA.out.trans ho2 (fun _ _ h => h))
    have HRN : Hid (ResE w2 w.heap.size) := HRES.out.only ho2 (by omega)
    clear hr2 ho2 hv
    go_wp2_with fail
    refine HJ.out.mono ?_
    rintro e w3 ⟨v', rfl, ⟨nv, rfl, hon⟩, hb3⟩
    have hsz3 := hb3.size
    have HON := hide hon
    have HRN3 : Hid (ResE w3 w.heap.size) := by unfold ResE; rw [hb3.block _ (by omega)]; exact hide HRN.out
    have HR3 := hide (HR2.out.below hb3)
    have HO3 := hide (HO2.out.trans (Only.below hb3) (fun _ _ h => h))
    obtain ⟨⟨q0, q1, q2, q3⟩, f0, f1, f2, f3⟩ := HRN3.out.all
    clear hon hb3
    unfold EVal.val exV
    go_wp2
    refine bodyPost_ret (v := nv.val) (by simp [results, Tryz.results197, go_sem, q0, q1, q2, q3, EVal.val, exV]) rfl ?_
    have hW : Only (fun k => k = w.heap.size) w3 _ := (((Only.set w3 w.heap.size 0 (.int .i64 nv.op)).trans (Only.set _ w.heap.size 1 (.string nv.nm)) (fun _ _ e => e)).trans (Only.set _ w.heap.size 2 (.int .i64 nv.wh)) (fun _ _ e => e)).trans (Only.set _ w.heap.size 3 (.slice nv.ko nv.kl nv.kc)) (fun _ _ e => e)
    refine ⟨_, rfl, ⟨nv, rfl, HON.out.mono (fun b hb => ⟨by omega, Nat.lt_of_lt_of_le hb.2 hW.size⟩) (fun ad u hB hc => hW.cell hc (by omega))⟩, ?_, ?_⟩
    · exact HR3.out.only (((((Below.refl N _).setCell hN1 _).setCell hN1 _).setCell hN1 _).setCell hN1 _)
    · exact only_set4 HO3.out (Nat.le_refl _) _ _ _ _
end Go.Proofs.YtkpgfhapffijkaaGreatDoor
