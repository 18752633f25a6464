/- Some parts of the proof, one behind the other. -/
import Derived.Test.YtkpgfhapffijkaaDoorJ26
/- What known's first source lays in memory. -/
namespace Go.Proofs.YtkpgfhapffijkaaDoor
open Go.ChangeShapes Go.WideShapes Go.ChangeAt Go.RowKit Go.DsMem Go.DsLx Go.DsJd Go.DsMk
set_option linter.unusedVariables false
theorem NdOn.inv8 {B : Nat → Prop} {w : World} {v : NVal} {op : Int} {ns : List Int} {kids : List Nd} {nm : ByteArray} (h : NdOn B w v (.mk op ns kids nm)) :
    ∃ (no : Option Addr) (nc : Nat) (ko : Option Addr) (kc g : Nat) (K : Nat → NVal), v = ⟨op, no, ns.length, nc, ko, kids.length, kc, nm⟩ ∧ RdI w (.slice no ns.length nc) ns ∧ (0 < kids.length → ko = some ⟨g, 0, none⟩) ∧ (∀ j, j < kids.length → NIn w g (0 + j * 4) (K j)) ∧ ∀ j (hj : j < kids.length), NdOn B w (K j) kids[j] := by
  cases h with
  | mk op ns kids nm no nc ko kc g K hn hnB hnl hkl hkc hko hkB hc hk => exact ⟨no, nc, ko, kc, g, K, rfl, hn, hko, hc, hk⟩
theorem plain_addr8 {W : World} {a : Addr} {v : Value} (h : W.cell? a = some v) : a = ⟨a.block, a.off, none⟩ := by
  have : a.spot = none := by
    unfold World.cell? at h
    cases hs : a.spot with
    | none => rfl
    | some s => rw [hs] at h; revert h; cases W.heap[a.block]? with
      | none => simp
      | some o => cases o <;> simp
  cases a; simp_all
/-- the job of known's first source, as it lies -/
structure Kn8 (w : World) (x : Srcp) (v : Value) (g jc g1 ga oa g2 g3 : Nat) (cs : Array Value) : Prop where
  val : ∃ a0 o1 l1 k1 o2 l2 k2, v = .agg #[.int .i64 a0, .int .i64 7, .slice o1 l1 k1, .slice o2 l2 k2, .slice (some ⟨g, 0, none⟩) 1 jc]
  one : cs.all (·.oneCell') = true
  size : cs.size = 24
  row : ∀ k u, cs[k]? = some u → w.cell? ⟨g, k, none⟩ = some u
  nm : cs[0]? = some (.string ⟨#[97]⟩)
  op : cs[1]? = some (.int .i64 7)
  kids : ∃ kc, cs[3]? = some (.slice (some ⟨g1, 0, none⟩) 2 kc)
  till : cs[12]? = some (.int .i64 1439)
  outs : ∃ oc, cs[17]? = some (.slice (some ⟨g3, 0, none⟩) 2 oc)
  runs : cs[22]? = some (.int .i64 1)
  n0 : ∃ nc, w.cell? ⟨g1, 1, none⟩ = some (.slice (some ⟨ga, oa, none⟩) 1 nc)
  n17 : w.cell? ⟨ga, oa, none⟩ = some (.int .i64 17)
  k1 : ∃ kc, w.cell? ⟨g1, 6, none⟩ = some (.slice (some ⟨g2, 0, none⟩) 1 kc)
  hol : w.cell? ⟨g2, 3, none⟩ = some (.string ⟨#[104, 111, 108]⟩)
  add : w.cell? ⟨g3, 0, none⟩ = some (.bool true)
  prev : w.cell? ⟨g3, 5, none⟩ = some (.int .i64 1)
theorem kn8_of {w w' : World} {x : Srcp} {v : Value} (hv : VSrc w x v w') (hk : kn81 x = true) : ∃ g jc g1 ga oa g2 g3 cs, Kn8 w' x v g jc g1 ga oa g2 g3 cs := by
  obtain ⟨hkeep, j, hj, hnm, htill, hruns, ⟨n1, n2, n3, hdays⟩, o1, o2, houts, ho1, ho2⟩ := kn81_of hk
  obtain ⟨s, rfl, _, _, hrow, _, hin⟩ := hv
  have hj0 : 0 < x.jobs.length := by rw [hj]; simp
  have hji := hin 0 hj0
  have ej : x.jobs[0] = j := by simp [hj]
  rw [ej] at hji
  obtain ⟨K0, hK0⟩ : ∃ K0, s.KJ 0 = K0 := ⟨_, rfl⟩
  rw [hK0] at hji
  have hd := hji.days
  rw [hdays] at hd
  obtain ⟨no, nc, ko, kc, g1, K, hdv, _, hko, hc, hkk⟩ := hd.inv8
  have hko := hko (by simp)
  have c0 := hc 0 (by simp)
  have c1 := hc 1 (by simp)
  obtain ⟨no0, nc0, ko0, kc0, _, _, e0, hr0, _, _, _⟩ := (hkk 0 (by simp)).inv8
  obtain ⟨no1, nc1, ko1, kc1, g2, K1, e1, _, hko1, hc1, hkk1⟩ := (hkk 1 (by simp)).inv8
  have hko1 := hko1 (by simp)
  have d0 := hc1 0 (by simp)
  obtain ⟨no2, nc2, ko2, kc2, _, _, e2, _, _, _, _⟩ := (hkk1 0 (by simp)).inv8
  obtain ⟨g3, hoo, _, hor⟩ := hji.outs (by rw [houts]; simp [ocRow, ocC])
  rw [houts] at hor
  -- the numbers of week
  obtain ⟨ao, cap, hs, _, hn0, hr⟩ := hr0
  simp only [Value.slice.injEq] at hs
  obtain ⟨hao, _, _⟩ := hs
  obtain ⟨a, ha⟩ : ∃ a, ao = some a := by
    cases ao with
    | none => have := (hn0 rfl).1; simp at this
    | some a => exact ⟨a, rfl⟩
  have h17 := hr a ha 0 17 rfl
  have ea := plain_addr8 h17
  have hspot : a.spot = none := by
    cases hs : a.spot with
    | none => rfl
    | some s =>
      have := congrArg Addr.spot ea
      simp only [Addr.add, if_true] at this
      rw [hs] at this; cases this
  have ea0 : a = ⟨a.block, a.off, none⟩ := by cases a; simp only at hspot; rw [hspot]
  have h17' : w'.cell? a = some (.int .i64 17) := by
    have : a.add 0 = a := by rw [ea0]; rfl
    rw [this] at h17
    exact h17
  have ea' := plain_addr8 h17'
  -- the row of jobs
  rcases hrow.2 with ⟨_, h0⟩ | ⟨g, cap2, cur, e, hb, hg, hc2, _⟩
  · omega
  · have e' : s.jo = some ⟨g, 0, none⟩ := by
      unfold sJobs at e
      simp only [Value.slice.injEq] at e
      exact e.1
    refine ⟨g, s.jc, g1, a.block, a.off, g2, g3, jC j K0, ?_⟩
    refine ⟨⟨x.start, s.co, x.cals.length, s.cc, s.ro, x.res.length, s.rc, by unfold sC; rw [hkeep, e', hj]; rfl⟩, by kernel_rfl, by kernel_rfl, fun k u hu => ?_, ?_, ?_, ?_, ?_, ?_, ?_, ?_, ?_, ?_, ?_, ?_, ?_⟩
    · have := hrow.cells (g := g) (by unfold sJobs; rw [e']; rfl) k u (by rw [hj]; simp only [rowJ, List.append_nil]; rw [hK0]; simpa using hu)
      rw [add_mk, Nat.zero_add] at this
      exact this
    · rw [← hnm]; rfl
    · show some (Value.int .i64 K0.dv.op) = _
      rw [hdv]
    · refine ⟨K0.dv.kc, ?_⟩
      show some (Value.slice K0.dv.ko K0.dv.kl K0.dv.kc) = _
      rw [hdv, hko]; rfl
    · rw [← htill]; rfl
    · refine ⟨K0.oc, ?_⟩
      show some (Value.slice K0.oo j.outs.length K0.oc) = _
      rw [hoo, houts]; rfl
    · rw [← hruns]; rfl
    · refine ⟨nc0, ?_⟩
      have := c0.c1
      rw [e0] at this
      simp only [Nat.zero_mul, Nat.add_zero, Nat.zero_add, List.length_cons, List.length_nil] at this
      rw [this, hao, ha, ea']
    · rw [← ea']; exact h17'
    · refine ⟨kc1, ?_⟩
      have := c1.c2
      rw [e1] at this
      simp only [hko1] at this
      simpa using this
    · have := d0.c3
      rw [e2] at this
      simpa using this
    · have := hor 0 _ rfl
      rw [ho1] at this
      exact this
    · have := hor 5 _ rfl
      rw [ho2] at this
      exact this
end Go.Proofs.YtkpgfhapffijkaaDoor

/- Law JdlPlaces of layer 8, but for what is known. -/
namespace Go.Proofs.YtkpgfhapffijkaaDoor
open Go.ChangeShapes Go.WideShapes Go.ChangeAt Go.RowKit Go.DsMem Go.DsLx Go.DsJd Go.DsMk
set_option linter.unusedVariables false
set_option linter.unusedSimpArgs false
set_option maxHeartbeats 4000000 in
set_option maxRecDepth 20000 in
theorem places8 (s : ByteArray) (w : World) (hs : s.size ≤ 140737488355000) (ht : Dt.Tab w) (htl : 1 < w.heap.size)
    (HK0 : ∀ w', Below w.heap.size w w' → Calls Tryd.prog 5 #[] w' fun e w2 => e = .returned (.bool true) ∧ Below w'.heap.size w' w2) :
    Calls Tryd.prog 3 #[.string s] w fun e w' => e = .returned (.bool true) ∧ Below w.heap.size w w' := by
  have HK := hide HK0
  have HP := hide (parse_any s w hs ht htl)
  have HG := hide (fun f (h : parseP s = .error f) => parseP_good h)
  clear ht htl HK0
  generalize parseP s = q at *
  rcases q with ⟨p, c⟩ | x
  · obtain ⟨g1, g2, g3⟩ := HG.out _ rfl
    simp only at g1 g2 g3
    by_cases hc : c = 0
    · have HPZ := hide (g3 hc)
      have HCZ := hide hc
      clear g1 g2 g3 HG hc
      go_enter Tryd.func3, Tryd.ntmps3
      go_wp2_with fail
      refine HP.out.mono ?_
      intro e w1 h
      obtain ⟨he, hb1⟩ : _ ∧ _ := h
      have HB1 := hide hb1
      obtain ⟨z1, hz1⟩ : ∃ z : Int, z = 0 := ⟨0, rfl⟩
      obtain ⟨z2, hz2⟩ : ∃ z : Int, z = 0 := ⟨0, rfl⟩
      have he' : e = .returned (.tuple #[.agg #[.int .i64 z1, .int .i64 z2, .slice none 0 0, .slice none 0 0, .slice none 0 0], .int .i64 p, .int .i64 c]) := by rw [hz1, hz2]; exact he
      have HZ1 := hide hz1
      have HZ2 := hide hz2
      clear he hz1 hz2
      subst he'
      clear hb1 HP
      go_upto_region 2 with fail
      obtain ⟨w2, hw2⟩ : ∃ w2, w1.alloc (.cells #[.int .i64 z1, .int .i64 z2, .slice none 0 0, .slice none 0 0, .slice none 0 0] 26) = w2 := ⟨_, rfl⟩
      rw [hw2]
      have hb2 : Below w1.heap.size w1 w2 := by rw [← hw2]; exact (Below.refl _ _).alloc (Nat.le_refl _) _
      have hblk : w2.heap[w1.heap.size]? = some (.cells #[.int .i64 z1, .int .i64 z2, .slice none 0 0, .slice none 0 0, .slice none 0 0] 26 (0, 0)) := by rw [← hw2]; exact heap_alloc_new w1 _
      have x1 := cell_of (k := 1) hblk
      have x4 := cell_of (k := 4) hblk
      simp at x1 x4
      have HB2 := hide (HB1.out.trans (hb2.mono HB1.out.size))
      clear hb2 hblk hw2
      obtain rfl := HZ1.out
      obtain rfl := HZ2.out
      obtain rfl := HCZ.out
      obtain rfl := HPZ.out
      go_wp2_with fail
      refine (HK.out _ HB2.out).mono ?_
      rintro e w3 ⟨rfl, hb3⟩
      have HB3 := hide (HB2.out.trans (hb3.mono HB2.out.size))
      clear hb3
      go_wp2
      go_ret
      exact ⟨rfl, HB3.out⟩
    · have hc' : (c == 0) = false := by simpa using hc
      clear g3 HG hc
      go_enter Tryd.func3, Tryd.ntmps3
      go_wp2_with fail
      refine HP.out.mono ?_
      intro e w1 h
      obtain ⟨he, hb1⟩ : _ ∧ _ := h
      have HB1 := hide hb1
      obtain ⟨z1, hz1⟩ : ∃ z : Int, z = 0 := ⟨0, rfl⟩
      obtain ⟨z2, hz2⟩ : ∃ z : Int, z = 0 := ⟨0, rfl⟩
      have he' : e = .returned (.tuple #[.agg #[.int .i64 z1, .int .i64 z2, .slice none 0 0, .slice none 0 0, .slice none 0 0], .int .i64 p, .int .i64 c]) := by rw [hz1, hz2]; exact he
      have HZ1 := hide hz1
      have HZ2 := hide hz2
      clear he hz1 hz2
      subst he'
      clear hb1 HP
      go_upto_region 2 with fail
      obtain ⟨w2, hw2⟩ : ∃ w2, w1.alloc (.cells #[.int .i64 z1, .int .i64 z2, .slice none 0 0, .slice none 0 0, .slice none 0 0] 26) = w2 := ⟨_, rfl⟩
      rw [hw2]
      have hb2 : Below w1.heap.size w1 w2 := by rw [← hw2]; exact (Below.refl _ _).alloc (Nat.le_refl _) _
      have hblk : w2.heap[w1.heap.size]? = some (.cells #[.int .i64 z1, .int .i64 z2, .slice none 0 0, .slice none 0 0, .slice none 0 0] 26 (0, 0)) := by rw [← hw2]; exact heap_alloc_new w1 _
      have x1 := cell_of (k := 1) hblk
      have x4 := cell_of (k := 4) hblk
      simp at x1 x4
      have HB2 := hide (HB1.out.trans (hb2.mono HB1.out.size))
      clear hb2 hblk hw2
      obtain rfl := HZ1.out
      obtain rfl := HZ2.out
      go_wp2_with fail
      refine (HK.out _ HB2.out).mono ?_
      rintro e w3 ⟨rfl, hb3⟩
      have HB3 := hide (HB2.out.trans (hb3.mono HB2.out.size))
      clear hb3
      go_wp2
      go_ret
      exact ⟨rfl, HB3.out⟩
  · clear HG
    go_enter Tryd.func3, Tryd.ntmps3
    go_wp2_with fail
    refine HP.out.mono ?_
    intro e w1 h
    obtain ⟨v, rfl, ⟨sl, rfl, _⟩, hb1⟩ : ∃ v, _ ∧ VSrc _ _ _ _ ∧ _ := h
    have HB1 := hide hb1
    unfold sC
    generalize x.start = a1
    generalize x.keep = a2
    generalize x.cals.length = n1
    generalize x.res.length = n2
    generalize x.jobs.length = n3
    obtain ⟨w2, hw2⟩ : ∃ w2, w1.alloc (.cells #[.int .i64 a1, .int .i64 a2, .slice sl.co n1 sl.cc, .slice sl.ro n2 sl.rc, .slice sl.jo n3 sl.jc] 26) = w2 := ⟨_, rfl⟩
    have hb2 : Below w1.heap.size w1 w2 := by rw [← hw2]; exact (Below.refl _ _).alloc (Nat.le_refl _) _
    have hblk : w2.heap[w1.heap.size]? = some (.cells #[.int .i64 a1, .int .i64 a2, .slice sl.co n1 sl.cc, .slice sl.ro n2 sl.rc, .slice sl.jo n3 sl.jc] 26 (0, 0)) := by rw [← hw2]; exact heap_alloc_new w1 _
    have x1 := cell_of (k := 1) hblk
    have x4 := cell_of (k := 4) hblk
    simp at x1 x4
    have HB2 := hide (HB1.out.trans (hb2.mono HB1.out.size))
    clear hb1 hb2 hblk HP
    go_upto_region 2 with fail
    try rw [hw2]
    clear hw2
    go_wp2_with fail
    refine (HK.out _ HB2.out).mono ?_
    rintro e w3 ⟨rfl, hb3⟩
    have HB3 := hide (HB2.out.trans (hb3.mono HB2.out.size))
    clear hb3
    go_wp2
    go_ret
    exact ⟨rfl, HB3.out⟩
end Go.Proofs.YtkpgfhapffijkaaDoor

