/- Some parts of the proof, one behind the other. -/
import Derived.Test.YthbfjkdklnffjaaDoorCeO
/- Layer 6's law: Count, day; cal.In by inB. -/
namespace Go.Proofs.YthbfjkdklnffjaaDoor
open Go.ChangeShapes Go.WideShapes Go.ChangeAt Go.RowKit Go.DsMem Go.DsMk
set_option linter.unusedVariables false

/-- a number from 0 to one below n -/
def cnt (k n : Int) : Int := if n < 1 then 0 else k % n
theorem cnt_lt {k n : Int} (h : 1 ≤ n) : 0 ≤ cnt k n ∧ cnt k n < n := by
  unfold cnt
  rw [if_neg (by omega)]
  exact ⟨Int.emod_nonneg _ (by omega), Int.emod_lt_of_pos _ (by omega)⟩
theorem tmod_facts (k n : Int) (hn : 1 ≤ n) : -n < k.tmod n ∧ k.tmod n < n ∧ (k.tmod n < 0 → k.tmod n + n = k % n) ∧ (¬ k.tmod n < 0 → k.tmod n = k % n) := by
  have h1 := Int.emod_nonneg k (show n ≠ 0 by omega)
  have h2 := Int.emod_lt_of_pos k (show 0 < n by omega)
  have h3 := Int.tmod_eq_emod (a := k) (b := n)
  have h4 : (n.natAbs : Int) = n := by omega
  rw [h3]
  split
  · refine ⟨by omega, by omega, by omega, by omega⟩
  · rename_i h
    have : k % n ≠ 0 := fun h0 => h (.inr (Int.dvd_of_emod_eq_zero h0))
    rw [h4]
    refine ⟨by omega, by omega, by omega, by omega⟩
set_option maxHeartbeats 1000000 in
/-- dayshiftref01.Count -/
theorem cnt_any (k n : Int) (w : World) (hk : -9223372036854775808 ≤ k ∧ k ≤ 9223372036854775807) (hn : 1 ≤ n ∧ n ≤ 9223372036854775807) :
    Calls Tryd.prog 12 #[.int .i64 k, .int .i64 n] w fun e w' => e = .returned (.int .i64 (cnt k n)) ∧ w' = w := by
  obtain ⟨hk1, hk2⟩ := hk
  obtain ⟨hn1, hn2⟩ := hn
  obtain ⟨t1, t2, t3, t4⟩ := tmod_facts k n hn1
  have HE : Hid (cnt k n = k % n) := by show _ = _; unfold cnt; rw [if_neg (by omega)]
  obtain ⟨r, hr⟩ : ∃ r, r = k.tmod n := ⟨_, rfl⟩
  rw [← hr] at t1 t2 t3 t4
  have hn0 : ¬ n = 0 := by omega
  by_cases h0 : r < 0
  · have HR := hide (t3 h0)
    clear t3 t4
    go_enter Tryd.func12, Tryd.ntmps12
    go_wp2
    go_ret
    exact ⟨ret_int (by rw [HE.out, ← HR.out, hr]), rfl⟩
  · have HR := hide (t4 h0)
    clear t3 t4
    go_enter Tryd.func12, Tryd.ntmps12
    go_wp2
    go_ret
    exact ⟨ret_int (by rw [HE.out, ← HR.out, hr]), rfl⟩
/-- dayshiftlaw06.day -/
theorem day_any (y m d : Int) (w : World) (hv : DsCal.vld y m d) (hm1 : 1 ≤ m) (hm2 : m ≤ 12) :
    Calls Tryd.prog 17 #[.int .i64 y, .int .i64 m, .int .i64 d] w fun e w' => e = .returned (.int .i64 (DsCal.num y m d)) ∧ w' = w := by
  have HV := hide hv
  clear hv
  go_enter Tryd.func17, Tryd.ntmps17
  go_wp2_with fail
  refine (Dt.refDays_yes y m d _ HV.out).mono ?_
  rintro e w1 ⟨rfl, rfl⟩
  go_wp2
  go_ret
  exact ⟨rfl, rfl⟩
/-- what In answers, by inB -/
noncomputable def inF (cs : List (ByteArray × Nd)) (t : Nd) (day : Int) : Bool × Int := if refF cs t day = 0 then (inB cs 257 t day, 0) else (false, refF cs t day)
theorem Gc.inAny {W w : World} (h : Gc W w) (co : Option Addr) (cc : Nat) (cs : List (ByteArray × Nd)) (g o : Nat) (V : Nat → NVal) (hc : CalsAt w co cc cs g o V) (t : Nd) (v : NVal) (hv : NdAt w v t) (day : Int) :
    Calls Tryd.prog 9 #[.slice co cs.length cc, v.val, .int .i64 day] w fun e w' => e = .returned (.tuple #[.bool (inF cs t day).1, .int .i64 (inF cs t day).2]) ∧ Gc W w' :=
  (h.in_ co cc cs g o V hc t v hv day).mono fun e w' ⟨hi, hg⟩ => by
    refine ⟨?_, hg⟩
    rcases hi with ⟨h0, rfl⟩ | ⟨h0, M, hM, m1, m2, rfl⟩
    · have : inF cs t day = (false, refF cs t day) := if_neg h0
      rw [this]
    · have : inF cs t day = (inB cs 257 t day, 0) := if_pos h0
      rw [this, inB_eq hM m1 m2]
end Go.Proofs.YthbfjkdklnffjaaDoor

/- Layer 6's law: what known asks, plain. -/
namespace Go.Proofs.YthbfjkdklnffjaaDoor
open Go.ChangeShapes Go.WideShapes Go.ChangeAt Go.RowKit Go.DsMem Go.DsMk
set_option linter.unusedVariables false

def wkN : Nd := .mk 1 [31] [] ⟨#[]⟩
def wkB : ByteArray := ⟨#[119, 111, 114, 107]⟩
def wkC : List (ByteArray × Nd) := [(wkB, wkN)]
def workN : Nd := .mk 5 [-1] [] wkB
def fisA : Nd := .mk 6 [445, 1] [] ⟨#[]⟩
def mar24 : Mo := ⟨2024, 3, DsCal.num 2024 3 1, 31⟩
def apr24 : Mo := ⟨2024, 4, DsCal.num 2024 4 1, 30⟩
theorem mar24_ok : mar24.ok := ⟨by unfold mar24 DsCal.vld; decide +kernel, rfl, by decide +kernel⟩
theorem apr24_ok : apr24.ok := ⟨by unfold apr24 DsCal.vld; decide +kernel, rfl, by decide +kernel⟩
theorem num_days : DsCal.num 2024 3 29 = 738974 ∧ DsCal.num 2024 3 30 = 738975 ∧ DsCal.num 2024 4 1 = 738977 ∧ DsCal.num 2024 3 25 = 738970 := by decide +kernel
theorem known_a : inF wkC workN 738974 = (true, 0) := by
  have h : refF wkC workN 738974 = 0 := by decide +kernel
  unfold inF
  rw [if_pos h, ← inB_eq mar24_ok (by decide +kernel) (by decide +kernel)]
  decide +kernel
theorem known_b : inF wkC fisA 738977 = (true, 0) := by
  have h : refF wkC fisA 738977 = 0 := by decide +kernel
  unfold inF
  rw [if_pos h, ← inB_eq apr24_ok (by decide +kernel) (by decide +kernel)]
  decide +kernel
theorem known_d : inF wkC fisA 738970 = (false, 0) := by
  have h : refF wkC fisA 738970 = 0 := by decide +kernel
  unfold inF
  rw [if_pos h, ← inB_eq mar24_ok (by decide +kernel) (by decide +kernel)]
  decide +kernel
theorem known_c : shiftF wkC wkN 1 738975 = (738977, 0) := by
  have h : refF wkC wkN 738975 = 0 := by decide +kernel
  have i0 : inB wkC 257 wkN 738975 = false := by rw [← inB_eq mar24_ok (by decide +kernel) (by decide +kernel)]; decide +kernel
  have i1 : inB wkC 257 wkN 738976 = false := by rw [← inB_eq mar24_ok (by decide +kernel) (by decide +kernel)]; decide +kernel
  have i2 : inB wkC 257 wkN 738977 = true := by rw [← inB_eq apr24_ok (by decide +kernel) (by decide +kernel)]; decide +kernel
  have e : awayF 738975 1 = [738976, 738977, 738978, 738979, 738980, 738981, 738982, 738983, 738984, 738985] := by decide +kernel
  unfold shiftF
  rw [if_neg (by rw [h]; decide), if_neg (by decide), if_neg (by rw [i0]; decide), e]
  simp [i1, i2]
end Go.Proofs.YthbfjkdklnffjaaDoor

/- Layer 6's law: known. -/
namespace Go.Proofs.YthbfjkdklnffjaaDoor
open Go.ChangeShapes Go.WideShapes Go.ChangeAt Go.RowKit Go.DsMem Go.DsMk
set_option linter.unusedVariables false

/-- a node with numbers alone -/
theorem NdAt.leaf {w : World} (op : Int) (ns : List Int) (nm : ByteArray) (no : Option Addr) (nc : Nat) (h : RdI w (.slice no ns.length nc) ns) (hl : ns.length ≤ 17592186043904) : NdAt w ⟨op, no, ns.length, nc, none, 0, 0, nm⟩ (.mk op ns [] nm) :=
  .mk op ns [] nm no nc none 0 0 0 (fun _ => ⟨0, none, 0, 0, none, 0, 0, ⟨#[]⟩⟩) h hl (by simp) (by simp) (fun h => absurd h (by simp)) (fun j hj => absurd hj (by simp)) (fun j hj => absurd hj (by simp))
/-- what known has made: the node in p + 1, the list of calendars in p + 2 -/
structure Kn (w : World) (p : Nat) : Prop where
  n0 : w.cell? ⟨p + 1, 0, none⟩ = some (.int .i64 1)
  n1 : w.cell? ⟨p + 1, 1, none⟩ = some (.slice (some ⟨p, 0, none⟩) 1 1)
  n2 : w.cell? ⟨p + 1, 2, none⟩ = some (.slice none 0 0)
  n3 : w.cell? ⟨p + 1, 3, none⟩ = some (.string ⟨#[]⟩)
  node : NdAt w ⟨1, some ⟨p, 0, none⟩, 1, 1, none, 0, 0, ⟨#[]⟩⟩ wkN
  cals : CalsAt w (some ⟨p + 2, 0, none⟩) 1 wkC (p + 2) 0 (fun _ => ⟨1, some ⟨p, 0, none⟩, 1, 1, none, 0, 0, ⟨#[]⟩⟩)
theorem Kn.below {w w' : World} {p : Nat} (h : Kn w p) (hb : Below w.heap.size w w') : Kn w' p :=
  ⟨Below.keeps hb (Nat.le_refl _) h.n0, Below.keeps hb (Nat.le_refl _) h.n1, Below.keeps hb (Nat.le_refl _) h.n2, Below.keeps hb (Nat.le_refl _) h.n3, h.node.grew hb, h.cals.grew hb⟩
theorem Kn.new (w : World) : Kn (((w.alloc (.cells #[.int .i64 31] 2)).alloc (.cells #[.int .i64 1, .slice (some ⟨w.heap.size, 0, none⟩) 1 1, .slice none 0 0, .string ⟨#[]⟩] 31)).alloc (.cells #[.string ⟨#[119, 111, 114, 107]⟩, .int .i64 1, .slice (some ⟨w.heap.size, 0, none⟩) 1 1, .slice none 0 0, .string ⟨#[]⟩] 48)) w.heap.size := by
  have r1 := RdI.new1 w 31 2
  obtain ⟨w1, h1⟩ : ∃ w1, w1 = w.alloc (.cells #[.int .i64 31] 2) := ⟨_, rfl⟩
  have z1 : w1.heap.size = w.heap.size + 1 := by rw [h1]; simp
  rw [← h1] at r1 ⊢
  obtain ⟨w2, h2⟩ : ∃ w2, w2 = w1.alloc (.cells #[.int .i64 1, .slice (some ⟨w.heap.size, 0, none⟩) 1 1, .slice none 0 0, .string ⟨#[]⟩] 31) := ⟨_, rfl⟩
  have z2 : w2.heap.size = w.heap.size + 2 := by rw [h2]; simp [z1]
  have e2 : w2.heap[w.heap.size + 1]? = some (.cells #[.int .i64 1, .slice (some ⟨w.heap.size, 0, none⟩) 1 1, .slice none 0 0, .string ⟨#[]⟩] 31 (0, 0)) := by rw [← z1, h2]; exact heap_alloc_new w1 _
  have r2 := r1.below (w' := w2) (by rw [h2]; exact (Below.refl _ _).alloc (Nat.le_refl _) _)
  rw [← h2]
  have e3 := heap_alloc_new w2 (.cells #[.string ⟨#[119, 111, 114, 107]⟩, .int .i64 1, .slice (some ⟨w.heap.size, 0, none⟩) 1 1, .slice none 0 0, .string ⟨#[]⟩] 48)
  rw [z2] at e3
  have r3 := r2.below ((Below.refl w2.heap.size w2).alloc (Nat.le_refl _) (.cells #[.string ⟨#[119, 111, 114, 107]⟩, .int .i64 1, .slice (some ⟨w.heap.size, 0, none⟩) 1 1, .slice none 0 0, .string ⟨#[]⟩] 48))
  have f2 := heap_keep (o := .cells #[.string ⟨#[119, 111, 114, 107]⟩, .int .i64 1, .slice (some ⟨w.heap.size, 0, none⟩) 1 1, .slice none 0 0, .string ⟨#[]⟩] 48) e2
  have hn := NdAt.leaf 1 [31] ⟨#[]⟩ (some ⟨w.heap.size, 0, none⟩) 1 r3 (by simp)
  refine ⟨by rw [cell_of f2]; rfl, by rw [cell_of f2]; rfl, by rw [cell_of f2]; rfl, by rw [cell_of f2]; rfl, hn, by simp [wkC], by simp [wkC], fun _ => rfl, fun j hj => ?_, fun j hj => ?_, fun j hj => ?_⟩
  · obtain rfl : j = 0 := by simp [wkC] at hj; exact hj
    rw [cell_of e3]; rfl
  · obtain rfl : j = 0 := by simp [wkC] at hj; exact hj
    exact ⟨by rw [cell_of e3]; rfl, by rw [cell_of e3]; rfl, by rw [cell_of e3]; rfl, by rw [cell_of e3]; rfl⟩
  · obtain rfl : j = 0 := by simp [wkC] at hj; exact hj
    exact hn
theorem in_known {w : World} {p : Nat} (h : Kn w p) (g : Gc w w) (op : Int) (ns : List Int) (nm : ByteArray) (no : Option Addr) (nc : Nat) (hr : RdI w (.slice no ns.length nc) ns) (hl : ns.length ≤ 17592186043904) (day : Int) (b : Bool) (hi : inF wkC (.mk op ns [] nm) day = (b, 0)) :
    Calls Tryd.prog 9 #[.slice (some ⟨p + 2, 0, none⟩) 1 1, .agg #[.int .i64 op, .slice no ns.length nc, .slice none 0 0, .string nm], .int .i64 day] w fun e w' => e = .returned (.tuple #[.bool b, .int .i64 0]) ∧ Gc w w' := by
  have := g.inAny _ 1 wkC _ _ _ h.cals _ _ (NdAt.leaf op ns nm no nc hr hl) day
  rw [hi] at this
  exact this
theorem shift_known {w : World} {p : Nat} (h : Kn w p) (g : Gc w w) :
    Calls Tryd.prog 18 #[.slice (some ⟨p + 2, 0, none⟩) 1 1, .agg #[.int .i64 1, .slice (some ⟨p, 0, none⟩) 1 1, .slice none 0 0, .string ⟨#[]⟩], .int .i64 1, .int .i64 738975] w fun e w' => e = .returned (.tuple #[.int .i64 738977, .int .i64 0]) ∧ Gc w w' := by
  have := g.shift _ 1 wkC _ _ _ h.cals _ _ h.node 1 738975 (by decide) (by decide)
  rw [known_c] at this
  exact this
theorem day_known (y m d n : Int) (w : World) (hv : DsCal.vld y m d) (hm1 : 1 ≤ m) (hm2 : m ≤ 12) (hn : DsCal.num y m d = n) :
    Calls Tryd.prog 17 #[.int .i64 y, .int .i64 m, .int .i64 d] w fun e w' => e = .returned (.int .i64 n) ∧ w' = w := by
  rw [← hn]; exact day_any y m d w hv hm1 hm2
end Go.Proofs.YthbfjkdklnffjaaDoor

/- Layer 6's law: the walk of known. -/
namespace Go.Proofs.YthbfjkdklnffjaaDoor
open Go.ChangeShapes Go.WideShapes Go.ChangeAt Go.RowKit Go.DsMem Go.DsMk
set_option linter.unusedVariables false

set_option maxHeartbeats 8000000 in
set_option maxRecDepth 20000 in
/-- dayshiftlaw06.known -/
theorem Gc.known6 {W w : World} (h : Gc W w) : Calls Tryd.prog 10 #[] w fun e w' => e = .returned (.bool true) ∧ Gc W w' := by
  have HG := hide h
  clear h
  have HDY := hide num_days
  go_enter Tryd.func10, Tryd.ntmps10
  go_wp2_with fail
  have HK0 := hide (Kn.new w)
  obtain ⟨wA, hwA⟩ : ∃ wA, wA = ((w.alloc (.cells #[.int .i64 31] 2)).alloc (.cells #[.int .i64 1, .slice (some ⟨w.heap.size, 0, none⟩) 1 1, .slice none 0 0, .string ⟨#[]⟩] 31)).alloc (.cells #[.string ⟨#[119, 111, 114, 107]⟩, .int .i64 1, .slice (some ⟨w.heap.size, 0, none⟩) 1 1, .slice none 0 0, .string ⟨#[]⟩] 48) := ⟨_, rfl⟩
  have HGA : Hid (Gc W wA) := by refine hide ?_; rw [hwA]; exact ((HG.out.alloc _).alloc _).alloc _
  have hzA : wA.heap.size = w.heap.size + 1 + 1 + 1 := by rw [hwA]; simp
  rw [← hwA] at HK0 ⊢
  rw [← hzA]
  have e2 : w.heap.size + 1 + 1 = w.heap.size + 2 := rfl
  rw [e2]
  clear e2
  generalize w.heap.size = p at *
  have HR1 := hide (RdI.new1 wA (-1) 2)
  obtain ⟨wB, hwB⟩ : ∃ wB, wB = wA.alloc (.cells #[.int .i64 (-1)] 2) := ⟨_, rfl⟩
  have HBB : Hid (Below wA.heap.size wA wB) := by refine hide ?_; rw [hwB]; exact (Below.refl _ _).alloc (Nat.le_refl _) _
  rw [← hwB] at HR1 ⊢
  clear hwA hwB hzA
  have HKB := hide (HK0.out.below HBB.out)
  have HGB := hide (HGA.out.more HBB.out)
  refine (day_known 2024 3 29 738974 wB (by unfold DsCal.vld; decide +kernel) (by decide) (by decide) HDY.out.1).mono ?_
  rintro e w1 ⟨rfl, rfl⟩
  go_wp2_with fail
  refine (in_known HKB.out HGB.out.here 5 [-1] ⟨#[119, 111, 114, 107]⟩ (some ⟨wA.heap.size, 0, none⟩) 1 HR1.out (by simp) 738974 true known_a).mono ?_
  rintro e w2 ⟨rfl, hg2⟩
  have HK2 := hide (HKB.out.below hg2.below)
  have HG2 := hide (HGB.out.more hg2.below)
  clear hg2
  go_wp2_with fail
  have HR3 := hide (RdI.new2 w2 445 1 2)
  obtain ⟨w3, hw3⟩ : ∃ w3, w3 = w2.alloc (.cells #[.int .i64 445, .int .i64 1] 2) := ⟨_, rfl⟩
  have HB3 : Hid (Below w2.heap.size w2 w3) := by refine hide ?_; rw [hw3]; exact (Below.refl _ _).alloc (Nat.le_refl _) _
  rw [← hw3] at HR3 ⊢
  clear hw3
  have HK3 := hide (HK2.out.below HB3.out)
  have HG3 := hide (HG2.out.more HB3.out)
  refine (day_known 2024 4 1 738977 w3 (by unfold DsCal.vld; decide +kernel) (by decide) (by decide) HDY.out.2.2.1).mono ?_
  rintro e w3' ⟨rfl, hw3'⟩
  rw [hw3']
  clear hw3' w3'
  go_wp2_with fail
  refine (in_known HK3.out HG3.out.here 6 [445, 1] ⟨#[]⟩ (some ⟨w2.heap.size, 0, none⟩) 2 HR3.out (by simp) 738977 true known_b).mono ?_
  rintro e w4 ⟨rfl, hg4⟩
  have HK4 := hide (HK3.out.below hg4.below)
  have HG4 := hide (HG3.out.more hg4.below)
  clear hg4
  go_wp2_with fail
  have KP : Hid (∀ w', Below w4.heap.size w4.drew w' → w'.cell? ⟨p + 1, 0, none⟩ = some (.int .i64 1) ∧ w'.cell? ⟨p + 1, 1, none⟩ = some (.slice (some ⟨p, 0, none⟩) 1 1) ∧ w'.cell? ⟨p + 1, 2, none⟩ = some (.slice none 0 0) ∧ w'.cell? ⟨p + 1, 3, none⟩ = some (.string ⟨#[]⟩)) := fun w' hb => ⟨Below.keeps hb (Nat.le_refl _) (w := w4.drew) HK4.out.n0, Below.keeps hb (Nat.le_refl _) (w := w4.drew) HK4.out.n1, Below.keeps hb (Nat.le_refl _) (w := w4.drew) HK4.out.n2, Below.keeps hb (Nat.le_refl _) (w := w4.drew) HK4.out.n3⟩
  obtain ⟨k0, k1, k2, k3⟩ := KP.out w4.drew (Below.refl _ _)
  first
    | (go_region_held3 (fun w' => w'.cell? ⟨p + 1, 0, none⟩ = some (.int .i64 1) ∧ w'.cell? ⟨p + 1, 1, none⟩ = some (.slice (some ⟨p, 0, none⟩) 1 1) ∧ w'.cell? ⟨p + 1, 2, none⟩ = some (.slice none 0 0) ∧ w'.cell? ⟨p + 1, 3, none⟩ = some (.string ⟨#[]⟩))
        (first | go_keep | (exact KP.out _ (by assumption)))
        (first
          | (go_at_call 17; refine (day_known 2024 3 30 738975 _ (by unfold DsCal.vld; decide +kernel) (by decide) (by decide) HDY.out.2.1).mono ?_; rintro e w5 ⟨rfl, rfl⟩)
          | (go_at_call 18; refine (shift_known (HK4.out.below (Below.refl _ _).drew) HG4.out.drew.here).mono ?_; rintro e w6 ⟨rfl, hg6⟩; have hb6 : Below w4.heap.size w4.drew w6 := hg6.below)))
    | fail
  have HB6 := hide hb6
  clear hg6 hb6 k0 k1 k2 k3
  have HBX6 : Hid (Below w4.heap.size w4 w6) := (Below.refl _ _).drew.trans HB6.out
  have HK6 := hide (HK4.out.below HBX6.out)
  have HG6 := hide (HG4.out.more HBX6.out)
  go_wp2_with fail
  have HR7 := hide (RdI.new2 w6 445 1 2)
  obtain ⟨w7, hw7⟩ : ∃ w7, w7 = w6.alloc (.cells #[.int .i64 445, .int .i64 1] 2) := ⟨_, rfl⟩
  have HB7 : Hid (Below w6.heap.size w6 w7) := by refine hide ?_; rw [hw7]; exact (Below.refl _ _).alloc (Nat.le_refl _) _
  rw [← hw7] at HR7 ⊢
  clear hw7
  have HK7 := hide (HK6.out.below HB7.out)
  have HG7 := hide (HG6.out.more HB7.out)
  refine (day_known 2024 3 25 738970 w7 (by unfold DsCal.vld; decide +kernel) (by decide) (by decide) HDY.out.2.2.2).mono ?_
  rintro e w7' ⟨rfl, hw7'⟩
  rw [hw7']
  clear hw7' w7'
  go_wp2_with fail
  refine (in_known HK7.out HG7.out.here 6 [445, 1] ⟨#[]⟩ (some ⟨w6.heap.size, 0, none⟩) 2 HR7.out (by simp) 738970 false known_d).mono ?_
  rintro e w8 ⟨rfl, hg8⟩
  have HG8 := hide (HG7.out.more hg8.below)
  clear hg8
  go_wp2_with fail
  refine (day_known 2024 4 1 738977 w8 (by unfold DsCal.vld; decide +kernel) (by decide) (by decide) HDY.out.2.2.1).mono ?_
  rintro e w9 ⟨rfl, hw9⟩
  rw [hw9]
  clear hw9 w9
  go_wp2
  go_ret
  exact ⟨rfl, HG8.out⟩
end Go.Proofs.YthbfjkdklnffjaaDoor

