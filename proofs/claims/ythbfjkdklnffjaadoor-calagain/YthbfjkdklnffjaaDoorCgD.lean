/- What comes again behind 400 years, plain; the walk of CalAgain. -/
import Derived.Test.YthbfjkdklnffjaaDoorCfA
import Derived.Test.YthbfjkdklnffjaaDoorCgC
namespace DsCal
theorem ahead_400 (y : Int) : ahead (y + 400) = ahead y + 146097 := by unfold ahead; omega
theorem lp_400 (y : Int) : lp (y + 400) = lp y := by unfold lp; split <;> split <;> omega
theorem dlen_400 (y m : Int) : dlen (y + 400) m = dlen y m := by unfold dlen; rw [lp_400]
theorem cum_400 (y m : Int) : cum (y + 400) m = cum y m := by unfold cum; rw [lp_400]
theorem num_400 (y m d : Int) : num (y + 400) m d = num y m d + 146097 := by unfold num; rw [ahead_400, cum_400]; omega
end DsCal
namespace Go.DsMk
theorem fm_400 (b y : Int) : fm b (y + 400) = fm b y + 146097 := by
  unfold fm DsCal.a0
  rw [DsCal.num_400]
  omega
theorem fday_400 (b p y : Int) (k : Nat) : fday b p (y + 400) k = fday b p y k + 146097 := by unfold fday; rw [fm_400]; omega
theorem placesOf_shift (f x : Int) (c : Int) : placesOf (f + c) [x + c] = placesOf f [x] := by
  unfold placesOf
  by_cases h : f ≤ x
  · have h' : f + c ≤ x + c := by omega
    simp [h, h']
    omega
  · have h' : ¬ f + c ≤ x + c := by omega
    simp [h, h']
theorem placesOf_zero (f : Int) (h : 1 ≤ f) : placesOf f [0] = [] := by
  unfold placesOf
  have : ¬ f ≤ 0 := by omega
  simp [this]
theorem nres_400 (f s wd k : Int) : DsCal.nres (f + 146097) s wd k = if 0 ≤ DsCal.nix f s wd k ∧ DsCal.nix f s wd k < s then (f + DsCal.nix f s wd k + 146097, 0) else (0, 30) := by
  have e : DsCal.a0 (f + 146097) wd = DsCal.a0 f wd := by unfold DsCal.a0; omega
  have e2 : DsCal.nix (f + 146097) s wd k = DsCal.nix f s wd k := by unfold DsCal.nix DsCal.cnt; rw [e]
  unfold DsCal.nres
  rw [e2]
  split <;> simp; omega
end Go.DsMk
namespace Go.Proofs.YthbfjkdklnffjaaDoor
open Go.ChangeShapes Go.WideShapes Go.ChangeAt Go.RowKit Go.DsMem Go.DsMk
set_option linter.unusedVariables false

/-- the month 400 years on -/
def Mo.on (M : Mo) : Mo := ⟨M.y + 400, M.m, M.f + 146097, M.s⟩
theorem Mo.on_ok {M : Mo} (h : M.ok) (hf : M.f ≤ 3505059) : M.on.ok := by
  obtain ⟨⟨v1, v2, v3, v4⟩, hf', hs⟩ := h
  have hn : DsCal.num M.y M.m 1 = DsCal.ahead M.y + DsCal.cum M.y M.m + 1 := rfl
  have hm := DsCal.dlen_range (Int.le_trans v3 v4)
  have hc := DsCal.cum_bd (y := M.y) (m := M.m) hm.1 (by omega)
  have hy : M.y + 400 ≤ 9999 := by
    rcases Int.lt_or_le 9599 M.y with c | c
    · have := DsCal.ahead_mono (a := 9600) (b := M.y) (by omega)
      have e : DsCal.ahead 9600 = 3505962 := by decide
      omega
    · omega
  refine ⟨⟨by show 1 ≤ M.y + 400; omega, hy, Int.le_refl _, ?_⟩, ?_, ?_⟩
  · show 1 ≤ DsCal.dlen (M.y + 400) M.m; rw [DsCal.dlen_400]; exact v4
  · show M.f + 146097 = DsCal.num (M.y + 400) M.m 1; rw [DsCal.num_400, hf']
  · show M.s = DsCal.dlen (M.y + 400) M.m; rw [DsCal.dlen_400]; exact hs
theorem isF_on {p b d : Int} (hp : okP p) (h1 : 1 ≤ b) (h2 : b ≤ 12) (d1 : 800 ≤ d) (d2 : d ≤ 3505059) : IsF p b (d + 146097) ↔ IsF p b d := by
  have bound : ∀ (y : Int) (k : Nat), 1 ≤ y → y ≤ 9999 → k < 12 → DsCal.ahead y + 1 ≤ fday b p y k ∧ fday b p y k ≤ DsCal.ahead y + 338 + 1 + 6 + 336 := fun y k y1 y2 hk => by
    have hf := fm_in b y
    have hn : DsCal.num y b 1 = DsCal.ahead y + DsCal.cum y b + 1 := rfl
    have hc := DsCal.cum_bd (y := y) (m := b) h1 (by omega)
    have hd := DsCal.dlen_bd (y := y) (m := b) h1 h2
    have hdoy := DsCal.doy_bd (y := y) (m := b) (d := 28) ⟨y1, y2, by omega, by omega⟩
    have hl := DsCal.lp01 y
    have hw := cumW_bd hp k
    have hm := cumW_mono hp k (12 - k)
    rw [show k + (12 - k) = 12 by omega, cumW_end hp] at hm
    unfold fday; omega
  constructor
  · rintro ⟨y, k, y1, y2, hk, e⟩
    have hb := bound y k y1 y2 hk
    have hy : 401 ≤ y := by
      rcases Int.lt_or_le y 401 with c | c
      · have := DsCal.ahead_mono (a := y) (b := 400) (by omega)
        have e4 : DsCal.ahead 400 = 145731 := by decide
        omega
      · exact c
    refine ⟨y - 400, k, by omega, by omega, hk, ?_⟩
    have := fday_400 b p (y - 400) k
    rw [show y - 400 + 400 = y by omega] at this
    omega
  · rintro ⟨y, k, y1, y2, hk, e⟩
    have hb := bound y k y1 y2 hk
    have hy : y ≤ 9599 := by
      rcases Int.lt_or_le 9599 y with c | c
      · have := DsCal.ahead_mono (a := 9600) (b := y) (by omega)
        have e4 : DsCal.ahead 9600 = 3505962 := by decide
        omega
      · exact c
    exact ⟨y + 400, k, by omega, by omega, hk, by rw [fday_400]; omega⟩
theorem daysF_op1 (cs : List (ByteArray × Nd)) (M : Mo) (k : Nat) (ns : List Int) (kids : List Nd) (nm : ByteArray) : daysF cs M (k + 1) (.mk 1 ns kids nm) = weekN (ns.getD 0 0).toNat ((M.f - 1) % 7) M.s := by rw [daysF]; simp
theorem daysF_op3 (cs : List (ByteArray × Nd)) (M : Mo) (k : Nat) (ns : List Int) (kids : List Nd) (nm : ByteArray) : daysF cs M (k + 1) (.mk 3 ns kids nm) = daysN M.s ns := by rw [daysF]; simp
theorem daysF_op4 (cs : List (ByteArray × Nd)) (M : Mo) (k : Nat) (ns : List Int) (kids : List Nd) (nm : ByteArray) : daysF cs M (k + 1) (.mk 4 ns kids nm) = theseN M.f M.s [(DsCal.nres M.f M.s (ns.getD 0 0) (ns.getD 1 0)).1] := by rw [daysF]; simp
theorem again_in (op : Int) (ns : List Int) (kids : List Nd) (nm : ByteArray) (hop : op = 1 ∨ op = 3 ∨ op = 4 ∨ op = 6) {d : Int} (d1 : 800 ≤ d) (d2 : d ≤ 3505059) (hr : refF [] (.mk op ns kids nm) d = 0) :
    inB [] 257 (.mk op ns kids nm) (d + 146097) = inB [] 257 (.mk op ns kids nm) d := by
  obtain ⟨-, -, -, hok, -⟩ := refF_ok hr
  obtain ⟨⟨hsh, hnu⟩, -, -⟩ := hok
  obtain ⟨M, hM, m1, m2⟩ := mo_ex (d := d) (by omega) (by omega)
  have hbd := isMo_bd hM
  by_cases h6 : op = 6
  · subst h6
    have hl := (shape_len hsh).2.2 (.inr rfl)
    have hk0 : kids = [] := by
      cases kids with
      | nil => rfl
      | cons a l => exfalso; simp [shapeB, shpN] at hsh; omega
    subst hk0
    match ns, hl with
    | [p, b], _ =>
    have hpb : okP p ∧ 1 ≤ b ∧ b ≤ 12 := by
      simp [numsB, oneB, betB] at hnu
      unfold okP
      omega
    have e1 := fisB (nm := nm) hpb.1 hpb.2.1 hpb.2.2 (d := d) (by omega) (by omega) []
    have e2 := fisB (nm := nm) hpb.1 hpb.2.1 hpb.2.2 (d := d + 146097) (by omega) (by omega) []
    rw [Bool.eq_iff_iff, e1, e2]
    exact isF_on hpb.1 hpb.2.1 hpb.2.2 d1 d2
  · have hok' := Mo.on_ok hM (by omega)
    rw [← inB_eq hM m1 m2, ← inB_eq hok' (day := d + 146097) (by show M.f + 146097 ≤ _; omega) (by show _ < M.f + 146097 + M.s; omega)]
    have hd : d + 146097 - M.on.f + 1 = d - M.f + 1 := by show d + 146097 - (M.f + 146097) + 1 = _; omega
    rw [hd]
    have hdays : daysF [] M.on 257 (.mk op ns kids nm) = daysF [] M 257 (.mk op ns kids nm) := by
      rcases hop with rfl | rfl | rfl | rfl
      · rw [daysF_op1, daysF_op1]
        have : (M.on.f - 1) % 7 = (M.f - 1) % 7 := by show (M.f + 146097 - 1) % 7 = _; omega
        rw [this]; rfl
      · rw [daysF_op3, daysF_op3]; rfl
      · rw [daysF_op4, daysF_op4]
        show theseN (M.f + 146097) M.s [(DsCal.nres (M.f + 146097) M.s _ _).1] = theseN M.f M.s [(DsCal.nres M.f M.s _ _).1]
        rw [nres_400]
        unfold theseN DsCal.nres
        split
        · rw [placesOf_shift]
        · show daysN M.s (placesOf (M.f + 146097) [0]) = daysN M.s (placesOf M.f [0])
          rw [placesOf_zero _ (by omega), placesOf_zero _ (by omega)]
      · exact absurd rfl h6
    rw [hdays]
theorem again_ref (t : Nd) {d : Int} (d1 : 800 ≤ d) (d2 : d ≤ 3505059) : refF [] t (d + 146097) = refF [] t d := by
  unfold refF
  rw [DsCal.rightB_yes (n := d) (by omega) (by omega), DsCal.rightB_yes (n := d + 146097) (by omega) (by omega)]
theorem again_inF (op : Int) (ns : List Int) (kids : List Nd) (nm : ByteArray) (hop : op = 1 ∨ op = 3 ∨ op = 4 ∨ op = 6) {d : Int} (d1 : 800 ≤ d) (d2 : d ≤ 3505059) :
    inF [] (.mk op ns kids nm) (d + 146097) = inF [] (.mk op ns kids nm) d := by
  unfold inF
  rw [again_ref _ d1 d2]
  split
  · rename_i h; rw [again_in op ns kids nm hop d1 d2 h]
  · rfl
end Go.Proofs.YthbfjkdklnffjaaDoor
