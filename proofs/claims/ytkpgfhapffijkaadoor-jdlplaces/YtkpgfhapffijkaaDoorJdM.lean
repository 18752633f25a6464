/- Package jdl: two numbers; weekdays as bits. -/
import Derived.Test.YtkpgfhapffijkaaDoorJdL
namespace Go.DsJd
open Go.DsLx Go.DsMk
/-- one part, a word, another part -/
def pairP (E : Int) (p1 p2 : List Tk → Except Fl (Int × List Tk)) (ws : List Tk) : Except Fl (List Int × List Tk) :=
  match thenP E ⟨#[44]⟩ (p1 ws) with
  | .error f => .error f
  | .ok (a, r) => match p2 r with
    | .error f => .error f
    | .ok (b, r2) => .ok ([a, b], r2)
/-- weekdays as bits -/
def bitsF : List Int → Int
  | [] => 0
  | a :: l => ((bitsF l).toNat ||| (2 ^ a.toNat : Nat) : Nat)
end Go.DsJd
namespace Go.Proofs.YtkpgfhapffijkaaDoor
open Go.ChangeShapes Go.WideShapes Go.ChangeAt Go.RowKit Go.DsMem Go.DsLx Go.DsJd Go.DsMk
set_option linter.unusedVariables false
theorem vl_new {w0 w : World} (l : List Int) (hw : w0.heap.size ≤ w.heap.size) (hl : l.length ≤ 100) : VL w0 l (.slice (some ⟨w.heap.size, 0, none⟩) l.length l.length) (w.alloc (.cells (l.map (Value.int .i64)).toArray 2)) :=
  ⟨_, _, rfl, own_mk (cur := l.map (Value.int .i64)) (heap_alloc_new w _) (by simp) (by rw [List.take_of_length_le]; simp) (Nat.le_refl _) (by unfold maxLen; omega) hw⟩
set_option maxHeartbeats 4000000 in
set_option maxRecDepth 20000 in
/-- jdl.pair[int64] -/
theorem pairI {w : World} {R : Nat} {E d : Int} {B N : Nat} {ws : List Tk} (h : Rdr w R E d B N ws) (K K2 : Nat) (first cap first2 cap2 : Array Value) (p1 p2 : List Tk → Except Fl (Int × List Tk)) (hcf : CF K) (hcf2 : CF K2)
    (hp : ∀ w, Rdr w R E d B N ws → Calls Tryd.prog K (first ++ cap) w (PE R E d B N (p1 ws) VI w))
    (hp2 : ∀ w a r, thenP E ⟨#[44]⟩ (p1 ws) = .ok (a, r) → Rdr w R E d B N r → Calls Tryd.prog K2 (first2 ++ cap2) w (PE R E d B N (p2 r) VI w)) :
    Calls Tryd.prog 84 #[.pointer (some ⟨R, 0, none⟩), .func (.func K) first cap, .func (.func K2) first2 cap2] w (PE R E d B N (pairP E p1 p2 ws) VL w) := by
  obtain ⟨hN1, hN2⟩ := h.n
  have HP := hide (hp w h)
  have HP2 := hide hp2
  have hcf' := hcf (first ++ cap)
  have hcf2' := hcf2 (first2 ++ cap2)
  have HM := hide (fun (w : World) (r : List Tk) (h : Rdr w R E d B N r) => must_any ⟨#[44]⟩ h (by decide))
  clear h hp hp2 hcf hcf2
  unfold pairP
  generalize p1 ws = q at *
  cases q with
  | error f =>
    have e : thenP E ⟨#[44]⟩ (.error f : Except Fl (Int × List Tk)) = .error f := rfl
    rw [e]
    unfold PE Ends at HP
    unfold PE Ends
    simp only at HP ⊢
    clear HP2
    go_enter Tryd.func84, Tryd.ntmps84
    go_wp2_with fail
    refine HP.out.mono ?_
    rintro e w2 ⟨rfl, ho2⟩
    have HO2 := hide ho2
    clear ho2
    go_wp2
    exact ⟨rfl, rfl, HO2.out⟩
  | ok p =>
    obtain ⟨a, r⟩ := p
    have e : thenP E ⟨#[44]⟩ (.ok (a, r)) = (match mustP E ⟨#[44]⟩ r with | .error f => .error f | .ok r2 => .ok (a, r2)) := rfl
    rw [e] at HP2 ⊢
    have HM2 := hide (fun (w : World) h => HM.out w r h)
    clear HM e
    unfold PE Ends VI at HP
    simp only at HP
    generalize mustP E ⟨#[44]⟩ r = q2 at *
    cases q2 with
    | error f =>
      unfold Ends at HM2
      unfold PE Ends
      simp only at HM2 ⊢
      clear HP2
      go_enter Tryd.func84, Tryd.ntmps84
      go_wp2_with fail
      refine HP.out.mono ?_
      rintro e w2 ⟨v, rfl, rfl, hr2, ho2⟩
      have HO2 := hide ho2
      have HR2 := hide hr2
      clear ho2 hr2
      go_wp2_with fail
      refine (HM2.out _ HR2.out).mono ?_
      rintro e w3 ⟨rfl, ho3⟩
      have HO3 := hide (HO2.out.trans ho3 (fun _ _ h => h))
      clear ho3
      go_wp2
      exact ⟨rfl, rfl, HO3.out⟩
    | ok r2 =>
      unfold Ends at HM2
      simp only at HM2 ⊢
      have HP3 := hide (fun w h => HP2.out w a r2 rfl h)
      clear HP2
      generalize p2 r2 = q3 at *
      go_enter Tryd.func84, Tryd.ntmps84
      go_wp2_with fail
      refine HP.out.mono ?_
      rintro e w2 ⟨v, rfl, rfl, hr2, ho2⟩
      have HO2 := hide ho2
      have HR2 := hide hr2
      clear ho2 hr2
      go_wp2_with fail
      refine (HM2.out _ HR2.out).mono ?_
      rintro e w3 ⟨rfl, hr3, ho3⟩
      have HO3 := hide (HO2.out.trans ho3 (fun _ _ h => h))
      have HR3 := hide hr3
      clear ho3 hr3
      go_wp2_with fail
      refine (HP3.out _ HR3.out).mono ?_
      intro e w4 hz
      cases q3 with
      | error f =>
        obtain ⟨rfl, ho4⟩ := hz
        have HO4 := hide (HO3.out.trans ho4 (fun _ _ h => h))
        clear ho4
        go_wp2
        exact ⟨rfl, rfl, HO4.out⟩
      | ok p =>
        obtain ⟨b, r4⟩ := p
        obtain ⟨v, rfl, hv, hr4, ho4⟩ := hz
        unfold VI at hv
        subst hv
        have HO4 := hide (HO3.out.trans ho4 (fun _ _ h => h))
        have HR4 := hide hr4
        clear ho4 hr4
        go_wp2
        go_ret
        exact ⟨_, rfl, vl_new [a, b] HO4.out.size (by simp), HR4.out.below (below_new4 _), HO4.out.trans (Only.alloc _ _ _) (fun _ _ h => h)⟩
end Go.Proofs.YtkpgfhapffijkaaDoor
