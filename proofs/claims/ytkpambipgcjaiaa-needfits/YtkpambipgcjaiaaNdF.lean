/- Package dayshiftref14: Fits, Both. -/
import Derived.Test.YtkpambipgcjaiaaRqB
import Derived.Test.YtkpambipgcjaiaaNdP
import Derived.Test.YtkpambipgcjaiaaRpG
import Derived.Test.YtkpambipgcjaiaaPkA
namespace Go.Proofs.Ytkpambipgcjaiaa
open Go.ChangeShapes Go.WideShapes Go.ChangeAt Go.RowKit Go.DsMem Go.DsCo Go.DsPl Go.DsMap
set_option linter.unusedVariables false
set_option linter.unusedSimpArgs false
/-- another pool of the same resources, of which nothing is held -/
theorem RpAt.free {w : World} {pr b0 : Nat} {X : List Rt} {H : List Hd} {uo vo : Option Addr} {uc vc : Nat} (h : RpAt w pr b0 X H uo vo uc vc) :
    RpAt (w.alloc (.cells #[.slice uo X.length uc, .slice none 0 0] 37)) w.heap.size b0 X [] uo none uc 0 :=
  ⟨heap_alloc_new w _, own3_same h.rs (fun k hk => (bel1 w _).block k (h.rs.lt k hk).2), World.ownsRow_nil _ _ _ _, fun k hk e => by have := (h.rs.lt k hk).2; omega, fun k hk => by cases hk⟩
set_option maxHeartbeats 4000000 in
set_option maxRecDepth 20000 in
/-- dayshiftref14.Fits -/
theorem rnfits_any (l : List Ne) (no : Option Addr) (nc : Nat) (pr b0 : Nat) (X : List Rt) (H : List Hd) (uo vo : Option Addr) (uc vc : Nat) (w : World) (h : RpAt w pr b0 X H uo vo uc vc) (hX : X.length ≤ 1000000) (hfn : FineP (rkR X) []) (hl : NeAt w no nc l) (hll : l.length ≤ 100000) :
    Calls Try.prog 35 #[ptr pr, .slice no l.length nc] w fun e w' => e = .returned (.int .i64 (mayF (rkR X) [] 1 l)) ∧ Below w.heap.size w w' := by
  have c0 := h.c0
  obtain ⟨w1, hw1⟩ : ∃ w1, w.alloc (.cells #[.slice uo X.length uc, .slice none 0 0] 37) = w1 := ⟨_, rfl⟩
  have hb1 : Below w.heap.size w w1 := by rw [← hw1]; exact bel1 _ _
  have hp1 : RpAt w1 w.heap.size b0 X [] uo none uc 0 := by rw [← hw1]; exact h.free
  have HM := hide (rmay_any 1 l no nc w.heap.size b0 X [] uo none uc 0 w1 hp1 hX (by simp) hfn (hl.keep hb1) (by omega))
  have HB1 := hide hb1
  clear h hl hfn hb1 hp1
  unfold ptr at *
  go_enter Try.func35, Try.ntmps35
  go_wp2_with fail
  try rw [hw1]
  refine HM.out.mono ?_
  rintro e w2 ⟨rfl, hb⟩
  have HB2 := hide (HB1.out.trans (hb.mono HB1.out.size))
  clear hb hw1
  go_wp2
  go_ret
  exact ⟨rfl, HB2.out⟩
set_option maxHeartbeats 4000000 in
set_option maxRecDepth 20000 in
/-- dayshiftref14.Both -/
theorem rnboth_any (l m : List Ne) (no mo : Option Addr) (nc mc : Nat) (pr b0 : Nat) (X : List Rt) (H : List Hd) (uo vo : Option Addr) (uc vc : Nat) (w : World) (h : RpAt w pr b0 X H uo vo uc vc) (hX : X.length ≤ 1000) (hb0 : b0 ≤ w.heap.size) (hfn : FineP (rkR X) []) (hl : NeAt w no nc l) (hm : NeAt w mo mc m) (hll : l.length ≤ 1000) (hml : m.length ≤ 1000) :
    Calls Try.prog 37 #[ptr pr, .slice no l.length nc, .slice mo m.length mc] w fun e w' => e = .returned (.bool (bothF (rkR X) l m)) ∧ Below w.heap.size w w' := by
  have c0 := h.c0
  obtain ⟨w1, hw1⟩ : ∃ w1, w.alloc (.cells #[.slice uo X.length uc, .slice none 0 0] 37) = w1 := ⟨_, rfl⟩
  have hb1 : Below w.heap.size w w1 := by rw [← hw1]; exact bel1 _ _
  have hz1 : w1.heap.size = w.heap.size + 1 := by rw [← hw1]; simp
  have hp1 : RpAt w1 w.heap.size b0 X [] uo none uc 0 := by rw [← hw1]; exact h.free
  have hng : ∀ (l : List Ne) (no : Option Addr) (nc : Nat), NeAt w no nc l → 0 < l.length → ∀ g o', no = some ⟨g, o', none⟩ → ¬ g = w.heap.size := fun l no nc hat h0 g o' e => by
    obtain ⟨g', o'', e', _, hg, _⟩ := hat h0
    rw [e'] at e
    simp only [Option.some.injEq, Addr.mk.injEq] at e
    omega
  have hX2 : (rkR X).length = X.length := by simp [rkR]
  have htf := take_fine (o := 1) (l := l) hfn (by decide)
  have hT1l := htf.2
  simp only [List.length_nil] at hT1l
  have HT1 := hide (rtake_any 1 l no nc w.heap.size b0 X [] uo none uc 0 w1 hp1 (by omega) (by omega) (by simp) hfn (hl.keep hb1) (hng l no nc hl) (by omega))
  have HT2 := hide (fun w' vo' vc' (hp : RpAt w' w.heap.size b0 X (takeF (rkR X) [] 1 l).1 uo vo' uc vc') (hs : b0 ≤ w'.heap.size) (hb : Below w.heap.size w w') => rtake_any 2 m mo mc w.heap.size b0 X (takeF (rkR X) [] 1 l).1 uo vo' uc vc' w' hp hs (by omega) (by omega) htf.1 (hm.keep hb) (hng m mo mc hm) (by omega))
  have HB1 := hide hb1
  obtain ⟨Q, hQ⟩ : ∃ Q, bothF (rkR X) l m = Q := ⟨_, rfl⟩
  rw [hQ]
  unfold bothF at hQ
  clear h hl hm hfn hb1 hp1 hng htf hT1l hX2
  generalize takeF (rkR X) [] 1 l = T at *
  obtain ⟨H1, e1⟩ := T
  simp only at HT1 HT2 hQ
  generalize takeF (rkR X) H1 2 m = T2 at *
  obtain ⟨H2, e2⟩ := T2
  simp only at HT2 hQ
  unfold ptr at *
  by_cases h1 : e1 = 0
  · subst h1
    have h2 : ((e2 == (0 : Int)) : Bool) = Q := by rw [← hQ]; by_cases e : e2 = 0 <;> simp [e]
    have HQ := hide h2
    clear hQ h2
    go_enter Try.func37, Try.ntmps37
    go_wp2_with fail
    try rw [hw1]
    refine HT1.out.mono ?_
    rintro e w2 ⟨rfl, ⟨vo2, vc2, hp2⟩, ho2⟩
    have hb2 : Below w.heap.size w w2 := HB1.out.trans (ho2.toBelow HB1.out.size (fun i e => by rw [e]; exact Nat.le_refl _))
    have HTT := hide (HT2.out w2 vo2 vc2 hp2 (by have := hb2.size; omega) hb2)
    have HB2 := hide hb2
    clear hp2 ho2 hb2 HT2 hw1
    go_wp2_with fail
    refine HTT.out.mono ?_
    rintro e w3 ⟨rfl, _, ho3⟩
    have HB3 : Hid (Below w.heap.size w w3) := hide (HB2.out.trans (ho3.toBelow HB2.out.size (fun i e => by rw [e]; exact Nat.le_refl _)))
    clear ho3
    go_wp2
    go_ret
    exact ⟨congrArg (fun b => Ending.returned (.bool b)) HQ.out, HB3.out⟩
  · have h1' : ((e1 == (0 : Int)) : Bool) = false := by simpa using h1
    have HQ : Hid (Q = false) := hide (by rw [← hQ]; simp [h1])
    rw [HQ.out]
    clear hQ h1
    go_enter Try.func37, Try.ntmps37
    go_wp2_with fail
    try rw [hw1]
    refine HT1.out.mono ?_
    rintro e w2 ⟨rfl, ⟨vo2, vc2, hp2⟩, ho2⟩
    have HB2 : Hid (Below w.heap.size w w2) := hide (HB1.out.trans (ho2.toBelow HB1.out.size (fun i e => by rw [e]; exact Nat.le_refl _)))
    clear hp2 ho2 hw1
    go_wp2
    go_ret
    exact ⟨rfl, HB2.out⟩
end Go.Proofs.Ytkpambipgcjaiaa
