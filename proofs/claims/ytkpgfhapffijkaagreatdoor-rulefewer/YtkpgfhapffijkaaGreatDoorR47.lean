/- Layer 9's law: known. -/
import Derived.Test.YtkpgfhapffijkaaGreatDoorR45
import Derived.Test.YtkpgfhapffijkaaGreatDoorR46
import Derived.Test.YtkpgfhapffijkaaGreatDoorR43
namespace Go.Proofs.YtkpgfhapffijkaaGreatDoor
open Go.ChangeShapes Go.WideShapes Go.ChangeAt Go.RowKit Go.DsMem Go.DsLx Go.DsJd Go.DsMk Go.DsMap
set_option linter.unusedVariables false
set_option linter.unusedSimpArgs false
def src91 : ByteArray := ⟨#[106, 111, 98, 32, 97, 32, 123, 32, 110, 101, 101, 100, 32, 99, 112, 117, 32, 49, 59, 32, 125]⟩
def src92 : ByteArray := ⟨#[99, 97, 108, 101, 110, 100, 97, 114, 32, 97, 32, 61, 32, 98, 59, 32, 99, 97, 108, 101, 110, 100, 97, 114, 32, 98, 32, 61, 32, 97, 59]⟩
def src93 : ByteArray := ⟨([99, 97, 108, 101, 110, 100, 97, 114, 32, 119, 32, 61, 32, 119, 101, 101, 107, 40, 109, 111, 110, 41, 59, 32, 114, 101, 115, 111, 117, 114, 99, 101, 32, 99].append [112, 117, 32, 50, 59, 32, 106, 111, 98, 32, 97, 32, 123, 32, 100, 97, 121, 115, 32, 119, 59, 32, 110, 101, 101, 100, 32, 99, 112, 117, 32, 50, 59, 32, 125]).toArray⟩
theorem known91 : ∃ x, parseP src91 = .ok x ∧ checkF x = (3, 0, 21) := by
  obtain ⟨x, h1, h2⟩ := okS_of (s := src91) (p := fun x => decide (checkF x = (3, 0, 21))) (by decide +kernel)
  exact ⟨x, h1, of_decide_eq_true h2⟩
theorem known92 : ∃ x, parseP src92 = .ok x ∧ checkF x = (1, 0, 23) := by
  obtain ⟨x, h1, h2⟩ := okS_of (s := src92) (p := fun x => decide (checkF x = (1, 0, 23))) (by decide +kernel)
  exact ⟨x, h1, of_decide_eq_true h2⟩
theorem known93 : ∃ x, parseP src93 = .ok x ∧ checkF x = (0, 0, 0) := by
  obtain ⟨x, h1, h2⟩ := okS_of (s := src93) (p := fun x => decide (checkF x = (0, 0, 0))) (by decide +kernel)
  exact ⟨x, h1, of_decide_eq_true h2⟩
/-- check of a source whose answer is known -/
theorem lcheck_ok {s : ByteArray} {x : Srcp} {a b c : Int} (hp : parseP s = .ok x) (hc : checkF x = (a, b, c)) {W w : World} (hs : s.size ≤ 140737488355000) (h : Gc W w) :
    Calls Tryz.prog 12 #[.string s] w fun e w' => ∃ (a0 a1 : Int) (o1 : Option Addr) (n1 c1 : Nat) (o2 : Option Addr) (n2 c2 : Nat) (o3 : Option Addr) (n3 c3 : Nat), e = .returned (.tuple #[.agg #[.int .i64 a0, .int .i64 a1, .slice o1 n1 c1, .slice o2 n2 c2, .slice o3 n3 c3], .int .i64 a, .int .i64 b, .int .i64 c, .bool true]) ∧ Below w.heap.size w w' := by
  have := lcheck_any s hs h
  rw [hp] at this
  refine this.mono ?_
  rintro e w' ⟨v, rfl, ⟨sl, rfl, _⟩, hb⟩
  rw [hc]
  exact ⟨_, _, _, _, _, _, _, _, _, _, _, rfl, hb⟩
set_option maxHeartbeats 8000000 in
set_option maxRecDepth 20000 in
/-- dayshiftlaw09.known -/
theorem known9 {W w : World} (h : Gc W w) : Calls Tryz.prog 13 #[] w fun e w' => e = .returned (.bool true) ∧ Below w.heap.size w w' := by
  obtain ⟨x1, p1, c1⟩ := known91
  obtain ⟨x2, p2, c2⟩ := known92
  obtain ⟨x3, p3, c3⟩ := known93
  have HG := hide h
  have H1 := hide (lcheck_ok p1 c1 (by decide +kernel) h)
  have H2 := hide (fun w2 (hb : Below w.heap.size w w2) => lcheck_ok p2 c2 (by decide +kernel) (h.more hb))
  have H3 := hide (fun w2 (hb : Below w.heap.size w w2) => lcheck_ok p3 c3 (by decide +kernel) (h.more hb))
  unfold src91 at H1
  unfold src92 at H2
  unfold src93 at H3
  clear h p1 p2 p3 c1 c2 c3
  go_enter Tryz.func13, Tryz.ntmps13
  go_wp2_with fail
  refine H1.out.mono ?_
  intro e w1 hz
  obtain ⟨a0, a1, o1, n1, c1, o2, n2, c2, o3, n3, c3, rfl, hb1⟩ := hz
  go_upto_region 2 with fail
  obtain ⟨w2, hw2⟩ : ∃ w2, w1.alloc (.cells #[.int .i64 a0, .int .i64 a1, .slice o1 n1 c1, .slice o2 n2 c2, .slice o3 n3 c3] 26) = w2 := ⟨_, rfl⟩
  rw [hw2]
  have hb2 : Below w.heap.size w w2 := by rw [← hw2]; exact hb1.alloc hb1.size _
  have HB2 := hide hb2
  clear hw2 hb1 hb2 H1
  go_wp2_with fail
  refine (H2.out w2 HB2.out).mono ?_
  intro e w3 hz
  obtain ⟨a0, a1, o1, n1, c1, o2, n2, c2, o3, n3, c3, rfl, hb3⟩ := hz
  go_upto_region 3 with fail
  obtain ⟨w4, hw4⟩ : ∃ w4, w3.alloc (.cells #[.int .i64 a0, .int .i64 a1, .slice o1 n1 c1, .slice o2 n2 c2, .slice o3 n3 c3] 26) = w4 := ⟨_, rfl⟩
  rw [hw4]
  have hb4 : Below w.heap.size w w4 := by rw [← hw4]; exact (HB2.out.trans (hb3.mono HB2.out.size)).alloc (by have := HB2.out.size; have := hb3.size; omega) _
  have HB4 := hide hb4
  clear hw4 hb3 hb4 H2
  go_wp2_with fail
  refine (H3.out w4 HB4.out).mono ?_
  intro e w5 hz
  obtain ⟨a0, a1, o1, n1, c1, o2, n2, c2, o3, n3, c3, rfl, hb5⟩ := hz
  go_upto_region 4 with fail
  obtain ⟨w6, hw6⟩ : ∃ w6, w5.alloc (.cells #[.int .i64 a0, .int .i64 a1, .slice o1 n1 c1, .slice o2 n2 c2, .slice o3 n3 c3] 26) = w6 := ⟨_, rfl⟩
  rw [hw6]
  have hb6 : Below w.heap.size w w6 := by rw [← hw6]; exact (HB4.out.trans (hb5.mono HB4.out.size)).alloc (by have := HB4.out.size; have := hb5.size; omega) _
  have HB6 := hide hb6
  clear hw6 hb5 hb6 H3
  go_wp2
  go_ret
  exact ⟨rfl, HB6.out⟩
end Go.Proofs.YtkpgfhapffijkaaGreatDoor

/- Law RuleOrder of layer 9. -/
namespace Go.Proofs.YtkpgfhapffijkaaGreatDoor
open Go.ChangeShapes Go.WideShapes Go.ChangeAt Go.RowKit Go.DsMem Go.DsLx Go.DsJd Go.DsMk Go.DsMap
set_option linter.unusedVariables false
set_option linter.unusedSimpArgs false
abbrev z24 : Array Value := #[.string ⟨#[]⟩, .int .i64 0, .slice none 0 0, .slice none 0 0, .string ⟨#[]⟩, .bool false, .int .i64 0, .int .i64 0, .slice none 0 0, .slice none 0 0, .string ⟨#[]⟩, .int .i64 0, .int .i64 0, .int .i64 0, .string ⟨#[]⟩, .int .i64 0, .slice none 0 0, .slice none 0 0, .slice none 0 0, .int .i64 0, .int .i64 0, .int .i64 0, .int .i64 0, .int .i64 0]
theorem info24 : ∃ (i0 : TypeInfo) (z0 : Value), Tryz.prog.info? 56 = some i0 ∧ i0.size = 24 ∧ i0.bytes = 336 ∧ z0.cells.size = 24 ∧ i0.zero = some z0 := by
  have h1 := infoJob
  have h2 := infoJobZ
  cases hh : Tryz.prog.info? 56 with
  | none => rw [hh] at h1; cases h1
  | some i =>
    rw [hh] at h1 h2
    simp at h1
    exact ⟨i, .agg z24, rfl, h1.1, h1.2, by rfl, h2⟩
theorem srcS_jobs {x : Srcp} (h : SrcS x) {l : List Jb} (hl : l.length ≤ 48) (hm : ∀ j ∈ l, j ∈ x.jobs) : SrcS { x with jobs := l } := ⟨h.cals, h.res, hl, fun j hj => h.jobs.2 j (hm j hj)⟩
/-- a source with other jobs, that lie elsewhere -/
theorem SrcRd.jobs {w w' : World} {x : Srcp} {s : SSl} {gc gr gj oj : Nat} (h : SrcRd w x s gc gr gj oj) (hc : ∀ a u, w.cell? a = some u → w'.cell? a = some u) {l : List Jb} {B : Nat} {bo : Option Addr} {bc : Nat} {K : Nat → JSl}
    (hr : w'.ownsRow B 56 24 (.slice bo l.length bc) l.length (rowJ K 0 l)) (hin : ∀ i (hi : i < l.length), JIn (fun _ => True) w' (K i) l[i]) :
    ∃ g, SrcRd w' { x with jobs := l } { s with jo := bo, jc := bc, KJ := K } gc gr g 0 := by
  obtain ⟨g, j1, j2, j3⟩ : ∃ g, l.length ≤ bc ∧ (0 < l.length → bo = some ⟨g, 0, none⟩) ∧ ∀ k u, (rowJ K 0 l)[k]? = some u → w'.cell? ⟨g, k, none⟩ = some u := by
    rcases hr.2 with ⟨e, h0⟩ | ⟨g, cap, cur, e, hb, hg, hc2, _⟩
    · simp only [Value.slice.injEq] at e
      refine ⟨0, by omega, fun h => by omega, fun k u hu => ?_⟩
      have : l = [] := List.eq_nil_of_length_eq_zero h0
      rw [this] at hu; simp [rowJ] at hu
    · simp only [Value.slice.injEq] at e
      refine ⟨g, by omega, fun _ => e.1, fun k u hu => ?_⟩
      have := hr.cells (g := g) (by rw [e.1]; rfl) k u hu
      rw [add_mk, Nat.zero_add] at this
      exact this
  have h' := h.mono hc
  refine ⟨g, h'.cals, h'.res, j1, j2, fun i hi k u hu => ?_, hin⟩
  have hk : k < 24 := (List.getElem?_eq_some_iff.1 hu).1
  rw [Nat.zero_add]
  exact j3 _ _ (by rw [rowJ_at K 0 l i hi k hk, Nat.zero_add]; exact hu)
end Go.Proofs.YtkpgfhapffijkaaGreatDoor

/- Appends of as many elements as there are; rows of jobs, joined; needs by name. -/
namespace Go.Proofs.YtkpgfhapffijkaaGreatDoor
open Go.ChangeShapes Go.WideShapes Go.ChangeAt Go.RowKit Go.DsMem Go.DsLx Go.DsJd Go.DsMk Go.DsMap
set_option linter.unusedVariables false
set_option linter.unusedSimpArgs false
theorem wpList_append_any {P : Program} {w : World} {ops : Array Oper} {rest : List Oper} {o : Oper} {a : Act} {Q : Exit → Act → World → Prop} (hgd : o.guard = none) (s x : Operand) (t : TypeId)
    (ho : o.op = .call { callee := .builtin .append, args := #[s, x], argTypes := #[t, t] })
    (base : Nat) (e : TypeId) (i : TypeInfo) (z : Value) (size bytes : Nat) (ht : P.underlying t = some (.slice e)) (hi : P.info? e = some i) (hz : i.zero = some z)
    (hsize : i.size = size) (hby : i.bytes = bytes) (hzs : z.cells.size = size) (hsz : 0 < size)
    (v : Value) (n : Nat) (xs : List Value) (hs : a.eval s = v) (hown : w.ownsRow base e size v n xs)
    (ad : Addr) (m c : Nat) (news : List Value) (hx : a.eval x = .slice (some ad) m c) (hl : news.length = m * size) (hnews : ∀ j u, news[j]? = some u → w.cell? (ad.add j) = some u) (h1 : ∀ u ∈ news, u.oneCell' = true)
    (h63 : n + m ≤ maxLen) (hbytes : (n + m) * bytes ≤ 140737488355328) (hbase : base ≤ w.heap.size)
    (h : ∀ v' w', w'.ownsRow base e size v' (n + m) (xs ++ news) → w.grownBy w' v.ownBlock → wpList P ops Q rest (a.put o.dst v') w') : wpList P ops Q (o :: rest) a w := by
  refine wpList_plain hgd fun K hK => ?_
  obtain ⟨v', w', hr, h2, h3, _, _⟩ := run_append_own_at (P := P) w base t o.type e i z size bytes ht hi hz hsize hby hzs hsz v n xs hown ad m c news hl hnews h1 h63 hbytes hbase
  unfold Oper.wp execOp
  simp only [ho, resolve, invoke, builtin, Sem.run_bind, Sem.run_pure, Result.andThen_ok, List.map_toArray, List.map_cons, List.map_nil, hs, hx, hr]
  exact hK _ _ (h v' w' h2 h3)
theorem rowJ_app (K : Nat → JSl) : ∀ (a : Nat) (l m : List Jb), rowJ K a (l ++ m) = rowJ K a l ++ rowJ K (a + l.length) m
  | a, [], m => by simp [rowJ]
  | a, x :: l, m => by
    rw [List.cons_append, rowJ, rowJ, rowJ_app K (a + 1) l m, List.length_cons, List.append_assoc, show a + 1 + l.length = a + (l.length + 1) by omega]
theorem rowJ_len (K : Nat → JSl) : ∀ (a : Nat) (l : List Jb), (rowJ K a l).length = l.length * 24
  | a, [] => rfl
  | a, x :: l => by
    have : (jC x (K a)).toList.length = 24 := rfl
    rw [rowJ, List.length_append, this, rowJ_len K (a + 1) l, List.length_cons]; omega
theorem rowJ_congAB {K K' : Nat → JSl} : ∀ (a b : Nat) (l : List Jb), (∀ i, i < l.length → K (a + i) = K' (b + i)) → rowJ K a l = rowJ K' b l
  | a, b, [], _ => rfl
  | a, b, x :: l, h => by
    have h0 := h 0 (by simp)
    rw [Nat.add_zero, Nat.add_zero] at h0
    rw [rowJ, rowJ, h0, rowJ_congAB (a + 1) (b + 1) l (fun i hi => by
      have := h (i + 1) (by simp; omega)
      rw [show a + 1 + i = a + (i + 1) by omega, show b + 1 + i = b + (i + 1) by omega]; exact this)]
theorem rowJ_one (K : Nat → JSl) : ∀ (a : Nat) (l : List Jb), ∀ u ∈ rowJ K a l, u.oneCell' = true
  | a, [], u, h => by simp [rowJ] at h
  | a, x :: l, u, h => by
    rw [rowJ] at h
    rcases List.mem_append.1 h with h | h
    · exact jC_one x (K a) u h
    · exact rowJ_one K (a + 1) l u h
/-- a part of a row of jobs -/
theorem row_part {w : World} {x : List Jb} {K : Nat → JSl} {gj oj : Nat} (h : ∀ i (hi : i < x.length), w.rangeAt gj (oj + i * 24) (jC x[i] (K i)).toList) (a : Nat) (l : List Jb) (hl : a + l.length ≤ x.length) (he : ∀ i (hi : i < l.length) (h2 : a + i < x.length), l[i] = x[a + i]) :
    ∀ j u, (rowJ K a l)[j]? = some u → w.cell? ⟨gj, oj + a * 24 + j, none⟩ = some u := by
  intro j u hu
  have hj : j < l.length * 24 := by
    have := (List.getElem?_eq_some_iff.1 hu).1
    rw [rowJ_len] at this; exact this
  have hi : j / 24 < l.length := by omega
  have e : j = (j / 24) * 24 + j % 24 := by omega
  rw [e, rowJ_at K a l (j / 24) hi (j % 24) (by omega), he (j / 24) hi (by omega)] at hu
  have := h (a + j / 24) (by omega) (j % 24) u hu
  rw [show oj + (a + j / 24) * 24 + j % 24 = oj + a * 24 + j by omega] at this
  exact this
/-- whether a job needs something -/
def ndJ (r : ByteArray) (j : Jb) : Bool := j.needs.any (fun n => decide (n.1 = r))
def ndL (r : ByteArray) (l : List Jb) : Bool := l.any (ndJ r)
theorem ndL_iff {r : ByteArray} {l : List Jb} : ndL r l = true ↔ ∃ j ∈ l, ∃ n ∈ j.needs, n.1 = r := by
  unfold ndL ndJ
  simp only [List.any_eq_true, decide_eq_true_eq]
theorem any_take {α : Type} (f : α → Bool) (l : List α) (k : Nat) (hk : k < l.length) : (l.take (k + 1)).any f = ((l.take k).any f || f l[k]) := by
  rw [List.take_succ_eq_append_getElem hk, List.any_append]
  simp
theorem drop_sublist (l : List Jb) (m : Nat) : (l.take m ++ l.drop (m + 1)).Sublist l := by
  have h : (l.take m ++ l.drop (m + 1)).Sublist (l.take m ++ l.drop m) := List.Sublist.append (List.Sublist.refl _) (by
    rw [← List.drop_drop]
    exact List.drop_sublist 1 (l.drop m))
  rw [List.take_append_drop] at h
  exact h
theorem own_shape' {w : World} {B : Nat} {e : TypeId} {sz : Nat} {v : Value} {n : Nat} {xs : List Value} (h : w.ownsRow B e sz v n xs) : ∃ ao cap, v = .slice ao n cap ∧ n ≤ cap := by
  rcases h.2 with ⟨rfl, rfl⟩ | ⟨g, cap, cur, rfl, _, _, hc, _⟩
  · exact ⟨none, 0, rfl, Nat.le_refl _⟩
  · exact ⟨some ⟨g, 0, none⟩, cap, rfl, hc⟩
theorem str_dec (y x : ByteArray) : (y.toList == x.toList) = decide (y = x) := by
  by_cases h : y = x
  · subst h; simp
  · rw [str_ne h]; simp [h]
end Go.Proofs.YtkpgfhapffijkaaGreatDoor

/- Law RuleFewer of layer 9. -/
namespace Go.Proofs.YtkpgfhapffijkaaGreatDoor
open Go.ChangeShapes Go.WideShapes Go.ChangeAt Go.RowKit Go.DsMem Go.DsLx Go.DsJd Go.DsMk Go.DsMap
set_option linter.unusedVariables false
set_option linter.unusedSimpArgs false
set_option maxHeartbeats 16000000 in
set_option maxRecDepth 20000 in
/-- dayshiftlaw09.RuleFewer -/
theorem rfewer_any (s : ByteArray) (k : Int) {W w : World} (hs : s.size ≤ 140737488355000) (hk : -9223372036854775808 ≤ k ∧ k ≤ 9223372036854775807) (h : Gc W w) : Calls Tryz.prog 4 #[.string s, .int .i64 k] w fun e w' => e = .returned (.bool true) ∧ Below w.heap.size w w' := by
  have HL := hide (lcheck_any s hs h)
  have HK := hide (fun w2 (hb : Below w.heap.size w w2) => known9 (h.more hb))
  have HG := hide h
  have HSM := hide (fun x (e : parseP s = .ok x) => parseP_small e)
  clear h
  generalize parseP s = q at *
  cases q with
  | error f =>
    unfold LC at HL
    dsimp only at HL
    clear HSM HG
    generalize hp : w.heap.size = p at *
    go_enter Tryz.func4, Tryz.ntmps4
    go_wp2_with fail
    refine HL.out.mono ?_
    intro e w1 hz
    obtain ⟨rfl, hb1⟩ : _ ∧ _ := hz
    go_upto_region 2 with fail
    obtain ⟨w2, hw2⟩ : ∃ w2, w1.alloc (.cells #[.int .i64 0, .int .i64 0, .slice none 0 0, .slice none 0 0, .slice none 0 0] 26) = w2 := ⟨_, rfl⟩
    rw [hw2]
    have HB2 : Hid (Below p w w2) := hide (by rw [← hw2]; exact hb1.alloc (by have := hb1.size; omega) _)
    clear hw2 hb1 HL
    go_wp2_with fail
    refine (HK.out w2 HB2.out).mono ?_
    rintro e w3 ⟨rfl, hb3⟩
    have HB3 := hide (HB2.out.trans (hb3.mono (by have := HB2.out.size; omega)))
    clear hb3
    go_wp2
    go_ret
    exact ⟨rfl, HB3.out⟩
  | ok x =>
    unfold LC at HL
    dsimp only at HL
    have hsx := HSM.out x rfl
    have HSX := hide hsx
    have hn48 := hsx.jobs.1
    have hn12 := hsx.res.1
    have HOK : Hid ((checkF x).2.2 = 0 → ∀ l : List Jb, l.Sublist x.jobs → (checkF { x with jobs := l }).2.2 = 0) := hide (fun e l hl => check_fewer e hl)
    obtain ⟨F, hF⟩ : ∃ F, checkF x = F := ⟨_, rfl⟩
    rw [hF] at HL HOK
    clear hsx hF HSM
    obtain ⟨fa, fb, fe⟩ := F
    dsimp only at HL HOK
    generalize hp : w.heap.size = p at *
    go_enter Tryz.func4, Tryz.ntmps4
    go_wp2_with fail
    refine HL.out.mono ?_
    intro e w1 hz
    obtain ⟨v, rfl, hv, hb1⟩ : ∃ v, _ ∧ _ ∧ _ := hz
    obtain ⟨sl, gc, gr, gj, rfl, hrd⟩ := hv.rd HSX.out
    have hb1s := hb1.size
    have HRD := hide hrd
    clear hv HL
    unfold sC
    go_upto_region 2 with fail
    obtain ⟨w2, hw2⟩ : ∃ w2, w1.alloc (.cells #[.int .i64 x.start, .int .i64 x.keep, .slice sl.co x.cals.length sl.cc, .slice sl.ro x.res.length sl.rc, .slice sl.jo x.jobs.length sl.jc] 26) = w2 := ⟨_, rfl⟩
    rw [hw2]
    have hb2 : Below w1.heap.size w1 w2 := by rw [← hw2]; exact (Below.refl _ _).alloc (Nat.le_refl _) _
    have hs2 : w2.heap.size = w1.heap.size + 1 := by rw [← hw2]; simp
    have HFX : Hid (w2.heap[w1.heap.size]? = some (.cells #[.int .i64 x.start, .int .i64 x.keep, .slice sl.co x.cals.length sl.cc, .slice sl.ro x.res.length sl.rc, .slice sl.jo x.jobs.length sl.jc] 26 (0, 0))) := hide (by rw [← hw2]; exact heap_alloc_new w1 _)
    have HB12 := hide hb2
    have HB2 : Hid (Below p w w2) := hide (hb1.trans (hb2.mono (by omega)))
    have y4 : w2.cell? ⟨w1.heap.size, 4, none⟩ = some (.slice sl.jo x.jobs.length sl.jc) := by rw [cell_of HFX.out]; rfl
    have HK2 := hide (HK.out w2 HB2.out)
    have HFIN : Hid (∀ w', Below w2.heap.size w2 w' → Below p w w') := hide (fun w' hb => HB2.out.trans (hb.mono (by have := HB2.out.size; omega)))
    clear hw2 hb1 hb2 hrd
    generalize hX : w1.heap.size = X at *
    by_cases hfe : ¬ fe = 0
    · have hfe' : (fe != 0) = true := by simp [hfe]
      go_wp2_with fail
      refine HK2.out.mono ?_
      rintro e w3 ⟨rfl, hb3⟩
      have HB3 := hide (HFIN.out w3 hb3)
      clear hb3
      go_wp2
      go_ret
      exact ⟨rfl, HB3.out⟩
    have hfe : fe = 0 := by omega
    have hfe' : (fe != 0) = false := by simp [hfe]
    by_cases hjl : x.jobs.length = 0
    · have hjl' : ((x.jobs.length : Int) == 0) = true := by simp [hjl]
      go_wp2_with fail
      refine HK2.out.mono ?_
      rintro e w3 ⟨rfl, hb3⟩
      have HB3 := hide (HFIN.out w3 hb3)
      clear hb3
      go_wp2
      go_ret
      exact ⟨rfl, HB3.out⟩
    have hjl' : ((x.jobs.length : Int) == 0) = false := beq_eq_false_iff_ne.2 (by omega)
    have HCT := hide (cnt_any k x.jobs.length w2 hk (by omega))
    obtain ⟨c1, c2⟩ := cnt_lt (k := k) (n := (x.jobs.length : Int)) (by omega)
    obtain ⟨m, hm⟩ : ∃ m : Nat, cnt k x.jobs.length = (m : Int) := ⟨(cnt k x.jobs.length).toNat, by omega⟩
    rw [hm] at HCT c1 c2
    have hml : m < x.jobs.length := by omega
    clear hm c1 c2 HK2
    go_wp2_with fail
    refine HCT.out.mono ?_
    rintro e w3 ⟨rfl, hw3⟩
    obtain rfl := hw3.symm
    clear hw3 HCT
    have hrd2 := HRD.out.grew (by rw [hX]; exact HB12.out)
    have hat := hrd2.jat (by omega)
    have HAT := hide hat
    have hcap := hrd2.jcap
    rw [hat] at y4
    have hmm : (m : Int) < (x.jobs.length : Int) := by omega
    have hmc : m ≤ sl.jc := by omega
    have hm1c : m + 1 ≤ sl.jc := by omega
    have hm1l : m + 1 ≤ x.jobs.length := by omega
    have hadd : IntKind.i64.wrap ((m : Int) + 1) = ((m + 1 : Nat) : Int) := by rw [IntKind.wrap_i64]; omega
    have HROW2 := hide (row_part hrd2.jrow)
    obtain ⟨i0, z0, hi0, hz1, hz2, hzc, hz0⟩ := info24
    have HFJ := hide (HOK.out hfe _ (drop_sublist x.jobs m))
    have hX1 : X + 1 ≤ w2.heap.size := by omega
    clear hrd2 hat hfe hfe' hjl' HOK
    go_upto_region 6 with fail
    refine wp_region_list ?_
    iterate 5
      refine wpList_plain rfl (fun K hK => ?_)
      go_simp
      refine hK _ _ ?_
      clear hK K
    refine wpList_append_any rfl _ _ 24 rfl (X + 1) 56 i0 z0 24 336 Tryz.underlying24 hi0 hz0 hz1 hz2 hzc (by omega) (.slice none 0 0) 0 [] rfl (World.ownsRow_nil _ _ _ _) ⟨gj, 0, none⟩ m sl.jc (rowJ sl.KJ 0 (x.jobs.take m)) rfl (by rw [rowJ_len, List.length_take]; congr 1; omega) (fun j u hu => by
      rw [add_mk]
      have := HROW2.out 0 (x.jobs.take m) (by rw [List.length_take]; omega) (fun i hi h2 => by rw [List.getElem_take]; congr 1; omega) j u hu
      simpa using this) (rowJ_one _ _ _) (by unfold maxLen; omega) (by omega) hX1 ?_
    intro v1 w3 hown1 hgr1
    rw [Nat.zero_add, List.nil_append] at hown1
    obtain ⟨b1o, b1c, rfl, _⟩ := own_shape' hown1
    have hO1 : Only (fun _ => False) w2 w3 := (Only.grown hgr1).mono (fun i _ hi => by simp [Value.ownBlock] at hi)
    have y4' := hO1.cell y4 (fun e => e)
    have HOW1 := hide hown1
    have HO1 := hide hO1
    have hs3 := hO1.size
    obtain ⟨ao, hao, hao2⟩ : ∃ ao : Nat, (if sl.jc = m + 1 then some (⟨gj, 0, none⟩ : Addr) else some ⟨gj, (m + 1) * 24, none⟩) = some ⟨gj, ao, none⟩ ∧ (sl.jc ≠ m + 1 → ao = (m + 1) * 24) := by
      by_cases hce : sl.jc = m + 1
      · exact ⟨0, by rw [if_pos hce], fun h => absurd hce h⟩
      · exact ⟨(m + 1) * 24, by rw [if_neg hce], fun _ => rfl⟩
    have hin1 : (0 : Int) ≤ (m : Int) + 1 := by omega
    have hin2 : (m : Int) + 1 ≤ (x.jobs.length : Int) := by omega
    clear hown1 hgr1 hO1 y4
    go_upto_region 7 with fail
    refine wp_region_list ?_
    iterate 6
      refine wpList_plain rfl (fun K hK => ?_)
      go_simp
      refine hK _ _ ?_
      clear hK K
    try rw [hao]
    refine wpList_append_any rfl _ _ 24 rfl (X + 1) 56 i0 z0 24 336 Tryz.underlying24 hi0 hz0 hz1 hz2 hzc (by omega) (.slice b1o m b1c) m (rowJ sl.KJ 0 (x.jobs.take m)) rfl HOW1.out ⟨gj, ao, none⟩ (x.jobs.length - (m + 1)) (sl.jc - (m + 1)) (rowJ sl.KJ (m + 1) (x.jobs.drop (m + 1))) rfl (by rw [rowJ_len, List.length_drop]) (fun j u hu => by
      rw [add_mk]
      have hlen : j < (x.jobs.drop (m + 1)).length * 24 := by
        have := (List.getElem?_eq_some_iff.1 hu).1
        rw [rowJ_len] at this; exact this
      rw [List.length_drop] at hlen
      have := HROW2.out (m + 1) (x.jobs.drop (m + 1)) (by rw [List.length_drop]; omega) (fun i hi h2 => by rw [List.getElem_drop]) j u hu
      rw [hao2 (by omega)]
      have := HO1.out.cell this (fun e => e)
      simpa using this) (rowJ_one _ _ _) (by unfold maxLen; omega) (by omega) (by omega) ?_
    intro v2 w4 hown2 hgr2
    obtain ⟨bo, bc, rfl, _⟩ := own_shape' hown2
    obtain ⟨nL, hnL⟩ : ∃ nL, x.jobs.length - 1 = nL := ⟨_, rfl⟩
    have eL : m + (x.jobs.length - (m + 1)) = nL := by omega
    rw [eL] at hown2
    rw [eL]
    have hnl48 : nL ≤ 48 := by omega
    obtain ⟨L, hL⟩ : ∃ L, x.jobs.take m ++ x.jobs.drop (m + 1) = L := ⟨_, rfl⟩
    have hLn : L.length = nL := by rw [← hL, List.length_append, List.length_take, List.length_drop]; omega
    obtain ⟨KR, hKR⟩ : ∃ KR : Nat → JSl, KR = fun i => if i < m then sl.KJ i else sl.KJ (i + 1) := ⟨_, rfl⟩
    have hrowL : rowJ sl.KJ 0 (x.jobs.take m) ++ rowJ sl.KJ (m + 1) (x.jobs.drop (m + 1)) = rowJ KR 0 L := by
      rw [← hL, rowJ_app]
      congr 1
      · exact rowJ_congAB 0 0 _ (fun i hi => by rw [List.length_take] at hi; rw [hKR]; simp only [Nat.zero_add]; rw [if_pos (by omega)])
      · refine rowJ_congAB (m + 1) (0 + (x.jobs.take m).length) _ (fun i hi => ?_)
        rw [List.length_take, hKR]
        simp only
        rw [if_neg (by omega)]
        congr 1
        omega
    have hLin : ∀ i (hi : i < L.length), ∃ q, ∃ hq : q < x.jobs.length, L[i] = x.jobs[q] ∧ KR i = sl.KJ q := fun i hi => by
      subst hL
      rw [List.length_append, List.length_take, List.length_drop] at hi
      by_cases h : i < m
      · refine ⟨i, by omega, ?_, by rw [hKR]; simp only; rw [if_pos h]⟩
        rw [List.getElem_append_left (by rw [List.length_take]; omega), List.getElem_take]
      · refine ⟨i + 1, by omega, ?_, by rw [hKR]; simp only; rw [if_neg h]⟩
        rw [List.getElem_append_right (by rw [List.length_take]; omega), List.getElem_drop]
        congr 1
        rw [List.length_take]
        omega
    rw [hrowL] at hown2
    rw [hL] at HFJ
    have HSXL : Hid (SrcS { x with jobs := L }) := hide (srcS_jobs HSX.out (by omega) (fun j hj => by
      rw [← hL] at hj
      exact (drop_sublist x.jobs m).subset hj))
    have hO2 : Only (fun b => X + 1 ≤ b) w3 w4 := (Only.grown hgr2).mono (fun i _ hi => (HOW1.out.lt i hi).1)
    have hO24 : Only (fun b => X + 1 ≤ b) w2 w4 := (HO1.out.mono (fun _ _ e => e.elim)).trans hO2 (fun _ _ h => h)
    have hF4 := (hO24.block X (by omega) (by omega)).trans HFX.out
    have x0 : w4.cell? ⟨X, 0, none⟩ = some (.int .i64 x.start) := by rw [cell_of hF4]; rfl
    have x1 : w4.cell? ⟨X, 1, none⟩ = some (.int .i64 x.keep) := by rw [cell_of hF4]; rfl
    have x2 : w4.cell? ⟨X, 2, none⟩ = some (.slice sl.co x.cals.length sl.cc) := by rw [cell_of hF4]; rfl
    have x3 : w4.cell? ⟨X, 3, none⟩ = some (.slice sl.ro x.res.length sl.rc) := by rw [cell_of hF4]; rfl
    have x4 : w4.cell? ⟨X, 4, none⟩ = some (.slice (some ⟨gj, 0, none⟩) x.jobs.length sl.jc) := by rw [cell_of hF4]; show some (Value.slice sl.jo _ _) = _; rw [HAT.out]
    have xf : w4.frozen? ⟨X, 4, none⟩ = false := frozen_of hF4
    obtain ⟨w5, hw5⟩ : ∃ w5, w4.setCell ⟨X, 4, none⟩ (.slice bo nL bc) = w5 := ⟨_, rfl⟩
    have hO5 : Only (· = X) w4 w5 := by rw [← hw5]; exact Only.set w4 X 4 _
    have hF5 : w5.heap[X]? = some (.cells #[.int .i64 x.start, .int .i64 x.keep, .slice sl.co x.cals.length sl.cc, .slice sl.ro x.res.length sl.rc, .slice bo nL bc] 26 (0, 0)) := by
      rw [← hw5]
      have := hset_same hF4 (k := 4) (.slice bo nL bc)
      simpa using this
    have hs4 := hO24.size
    have hs5 := hO5.size
    have hB25 : Below X w2 w5 := (hO24.toBelow (by omega) (fun i h => by omega)).trans (hO5.toBelow (by omega) (fun i h => by omega))
    have hB15 : Below X w1 w5 := HB12.out.trans hB25
    have hkeep : ∀ a u, w1.cell? a = some u → w5.cell? a = some u := fun a u hc => Below.keeps (by rw [hX]; exact hB15) (Nat.le_refl _) hc
    have hown5 : w5.ownsRow (X + 1) 56 24 (.slice bo L.length bc) L.length (rowJ KR 0 L) := by
      rw [hLn]
      exact own_sameK hown2 (fun b hb => by
        have := hown2.lt b hb
        exact hO5.block b this.2 (by omega))
    obtain ⟨g5, hrd5⟩ := HRD.out.jobs (l := L) hkeep hown5 (fun i hi => by
      obtain ⟨q, hq, e1, e2⟩ := hLin i hi
      rw [e1, e2]
      exact (HRD.out.jin q hq).mono (fun b _ => trivial) (fun a u _ hc => hkeep a u hc))
    have HRD5 := hide hrd5
    have HB5 : Hid (Below p w w5) := hide (HB2.out.trans (hB25.mono (by omega)))
    have HF5 := hide hF5
    have hCk := check_any (HG.out.more (by rw [hp]; exact HB5.out)) hrd5 HSXL.out
    obtain ⟨G, hG⟩ : ∃ G, checkF { x with jobs := L } = G := ⟨_, rfl⟩
    rw [hG] at hCk HFJ
    have HGG := hide hG
    simp only [hLn] at hCk
    have HCK := hide hCk
    have y0 : w5.cell? ⟨X, 0, none⟩ = some (.int .i64 x.start) := by rw [cell_of hF5]; rfl
    have y1 : w5.cell? ⟨X, 1, none⟩ = some (.int .i64 x.keep) := by rw [cell_of hF5]; rfl
    have y2 : w5.cell? ⟨X, 2, none⟩ = some (.slice sl.co x.cals.length sl.cc) := by rw [cell_of hF5]; rfl
    have y3 : w5.cell? ⟨X, 3, none⟩ = some (.slice sl.ro x.res.length sl.rc) := by rw [cell_of hF5]; rfl
    have y4 : w5.cell? ⟨X, 4, none⟩ = some (.slice bo nL bc) := by rw [cell_of hF5]; rfl
    have HL2 := hide hL
    have HLN := hide hLn
    have HOWN5 := hide hown5
    have HLIN := hide hLin
    have HB15 := hide hB15
    obtain ⟨ga, gb, ge⟩ := G
    have hge : ge = 0 := HFJ.out
    subst hge
    clear hown2 hgr2 hnL eL hL hLn hrowL hLin hO2 hO24 hF4 hO5 hF5 hB25 hB15 hkeep hown5 hrd5 hCk hG HROW2 HOW1 HO1 hKR HFJ y4' hao hao2 hin1 hin2 hadd hmm hs3
    go_wp2_with fail
    refine HCK.out.mono ?_
    rintro e w6 ⟨rfl, hb6⟩
    have HB6 := hide (HB5.out.trans (hb6.mono (by have := HB5.out.size; omega)))
    have HRD6 := hide (HRD5.out.grew hb6)
    have HF6 := hide ((hb6.block X (block_lt HF5.out)).trans HF5.out)
    have HK6 := hide (HK.out w6 HB6.out)
    have HOWN6 := hide (own_sameK HOWN5.out (fun b hb => hb6.block b (HOWN5.out.lt b hb).2))
    have HB16 := hide (HB15.out.trans (hb6.mono (by omega)))
    have hX6 : X < w6.heap.size := block_lt HF6.out
    clear hb6 HCK y0 y1 y2 y3 y4 x0 x1 x2 x3 x4 xf HF5 HRD5 HB5 hs4 hs5 HOWN5 HB15
    have y3 : w6.cell? ⟨X, 3, none⟩ = some (.slice sl.ro x.res.length sl.rc) := by rw [cell_of HF6.out]; rfl
    by_cases hr0 : x.res.length = 0
    · have hr0' : ((x.res.length : Int) == 0) = true := by simp [hr0]
      go_wp2_with fail
      refine HK6.out.mono ?_
      rintro e w7 ⟨rfl, hb7⟩
      have HB7 := hide (HB6.out.trans (hb7.mono (by have := HB6.out.size; omega)))
      clear hb7
      go_wp2
      go_ret
      exact ⟨rfl, HB7.out⟩
    have hr0' : ((x.res.length : Int) == 0) = false := beq_eq_false_iff_ne.2 (by omega)
    obtain ⟨R, r, hRr⟩ : ∃ R r, x.res = R ++ [r] := ⟨x.res.take (x.res.length - 1), x.res[x.res.length - 1], by rw [← List.take_succ_eq_append_getElem (by omega), show x.res.length - 1 + 1 = x.res.length by omega, List.take_length]⟩
    have HRr := hide hRr
    have hnR : x.res.length = R.length + 1 := by rw [hRr]; simp
    have HLES := hide (check_less (x := { x with jobs := L }) (by rw [HGG.out]) hRr)
    have hrn : R.length < x.res.length := by omega
    have cN := HRD6.out.res.c0 R.length hrn
    have hgetr : x.res[R.length] = r := by simp [hRr]
    simp only at cN
    rw [hgetr] at cN
    have hro := HRD6.out.res.at_ (show 0 < x.res.length by omega)
    have HRO := hide hro
    have hro' : sl.ro = some ⟨gr, 0, none⟩ := hro
    rw [hro'] at y3
    have hsub : IntKind.i64.wrap ((x.res.length : Int) - 1) = (R.length : Int) := by rw [IntKind.wrap_i64]; omega
    have hp0 : (0 : Int) ≤ (R.length : Int) := Int.natCast_nonneg _
    have hp1 : (R.length : Int) < (x.res.length : Int) := by omega
    have HNR := hide hnR
    clear hRr hgetr hro hro' hnR
    generalize hRl : R.length = nR at *
    have HRL := hide hRl
    clear hRl
    go_upto_region 17 with fail
    clear cN hr0' y3 hsub hp0 hp1
    go_loopw [16, 17] (fun tt u wr => ∃ (i : Nat) (b : Bool), i ≤ nL ∧ b = ndL r.1 (L.take i) ∧ tt = .bool b ∧ u = .int .i64 i ∧ wr = w6) (fun _ u _ => nL - (intOf u).toNat)
    case atStart => exact ⟨0, false, Nat.zero_le _, rfl, rfl, rfl, rfl⟩
    case round =>
      obtain ⟨i, b0, hile, hb0, rfl, rfl, hwr⟩ := hrel
      subst hwr
      have HB0 := hide hb0
      clear hb0
      by_cases hlt : i < nL
      · have hii : i < L.length := by rw [HLN.out]; exact hlt
        have hat5 := HRD6.out.jat (show 0 < L.length by omega)
        have hrow5 := HRD6.out.jrow i hii
        have hin5 := HRD6.out.jin i hii
        simp only at hat5 hrow5 hin5
        have hcap5 := HRD6.out.jcap
        simp only [HLN.out] at hcap5
        obtain rfl := hat5
        have c18 : wr.cell? ⟨g5, i * 24 + 18, none⟩ = some (.slice (KR i).no L[i].needs.length (KR i).nc) := by
          have := hrow5 18 _ rfl
          simpa using this
        have HNC := hide (need_cells hin5.needs)
        have hn6 := hin5.n6
        have HEND : Hid (ndL r.1 (L.take (i + 1)) = (ndL r.1 (L.take i) || ndJ r.1 L[i])) := hide (any_take _ _ _ hii)
        unfold ndJ at HEND
        generalize L[i] = lj at *
        generalize KR i = ks at *
        clear hrow5 hin5
        have hi0 : (0 : Int) ≤ (i : Int) := Int.natCast_nonneg _
        have hi1 : (i : Int) < (nL : Int) := by omega
        obtain ⟨wO, hwO⟩ : ∃ wO, wO = wr := ⟨_, rfl⟩
        subst hwO
        go_wp2
        go_loopw [16, 18] (fun tt u wq => ∃ (j : Nat) (b : Bool), j ≤ lj.needs.length ∧ b = (b0 || (lj.needs.take j).any (fun n => decide (n.1 = r.1))) ∧ tt = .bool b ∧ u = .int .i64 j ∧ wq = wO) (fun _ u _ => lj.needs.length - (intOf u).toNat)
        case atStart => exact ⟨0, b0, Nat.zero_le _, by simp, rfl, rfl, rfl⟩
        case round =>
          obtain ⟨j, b, hjle, hb, rfl, rfl, hwq⟩ := hrel
          subst hwq
          have HB := hide hb
          clear hb
          by_cases hlt2 : j < lj.needs.length
          · obtain ⟨gn, hno, hcn⟩ := HNC.out (by omega)
            obtain ⟨d0, _, _⟩ := hcn j hlt2
            rw [hno] at c18
            have HST : Hid ((lj.needs.take (j + 1)).any (fun n => decide (n.1 = r.1)) = ((lj.needs.take j).any (fun n => decide (n.1 = r.1)) || decide (lj.needs[j].1 = r.1))) := hide (any_take _ _ _ hlt2)
            obtain ⟨bq, hbq⟩ : ∃ bq, (lj.needs[j].1.toList == r.1.toList) = bq := ⟨_, rfl⟩
            have hbd : decide (lj.needs[j].1 = r.1) = bq := by rw [← str_dec]; exact hbq
            rw [hbd] at HST
            generalize lj.needs[j].1 = nm at *
            have hj0 : (0 : Int) ≤ (j : Int) := Int.natCast_nonneg _
            have hj1 : (j : Int) < (lj.needs.length : Int) := by omega
            clear hcn hbd hno
            cases b with
            | true =>
              have HN : Hid (true = (b0 || (lj.needs.take (j + 1)).any (fun n => decide (n.1 = r.1)))) := hide (by
                rw [HST.out, ← Bool.or_assoc, ← HB.out]; rfl)
              go_wp2
              go_roundw
              case rel => exact ⟨j + 1, true, by omega, HN.out, rfl, by go_num, by first | rfl | trivial⟩
              case measure => simp [intOf] <;> omega
            | false =>
              have HN : Hid (bq = (b0 || (lj.needs.take (j + 1)).any (fun n => decide (n.1 = r.1)))) := hide (by
                rw [HST.out, ← Bool.or_assoc, ← HB.out]; rfl)
              go_wp2
              go_roundw
              case rel => exact ⟨j + 1, bq, by omega, HN.out, rfl, by go_num, by first | rfl | trivial⟩
              case measure => simp [intOf] <;> omega
          · obtain rfl : j = lj.needs.length := by omega
            rw [List.take_length] at HB
            have HN : Hid (b = ndL r.1 (L.take (i + 1))) := hide (by rw [HEND.out, ← HB0.out]; exact HB.out)
            go_wp2
            go_roundw
            case rel => exact ⟨i + 1, b, by omega, HN.out, rfl, by go_num, by first | rfl | trivial⟩
            case measure => simp [intOf] <;> omega
      · obtain rfl : i = nL := by omega
        rw [← HLN.out, List.take_length] at HB0
        have hRn : IntKind.i64.wrap ((x.res.length : Int) - 1) = (nR : Int) := by rw [IntKind.wrap_i64]; have := HNR.out; omega
        have hcapR := HRD6.out.res.cap
        simp only at hcapR
        have hnc : nR ≤ sl.rc := by omega
        have y0 : wr.cell? ⟨X, 0, none⟩ = some (.int .i64 x.start) := by rw [cell_of HF6.out]; rfl
        have y1 : wr.cell? ⟨X, 1, none⟩ = some (.int .i64 x.keep) := by rw [cell_of HF6.out]; rfl
        have y2 : wr.cell? ⟨X, 2, none⟩ = some (.slice sl.co x.cals.length sl.cc) := by rw [cell_of HF6.out]; rfl
        have y3 : wr.cell? ⟨X, 3, none⟩ = some (.slice (some ⟨gr, 0, none⟩) x.res.length sl.rc) := by rw [cell_of HF6.out]; show some (Value.slice sl.ro _ _) = _; rw [show sl.ro = some ⟨gr, 0, none⟩ from HRO.out]
        have y4 : wr.cell? ⟨X, 4, none⟩ = some (.slice bo i bc) := by rw [cell_of HF6.out]; rfl
        have yf : wr.frozen? ⟨X, 3, none⟩ = false := frozen_of HF6.out
        obtain ⟨w7, hw7⟩ : ∃ w7, wr.setCell ⟨X, 3, none⟩ (.slice (some ⟨gr, 0, none⟩) nR sl.rc) = w7 := ⟨_, rfl⟩
        have hO7 : Only (· = X) wr w7 := by rw [← hw7]; exact Only.set wr X 3 _
        have hF7 : w7.heap[X]? = some (.cells #[.int .i64 x.start, .int .i64 x.keep, .slice sl.co x.cals.length sl.cc, .slice (some ⟨gr, 0, none⟩) nR sl.rc, .slice bo i bc] 26 (0, 0)) := by
          rw [← hw7]
          have := hset_same HF6.out (k := 3) (.slice (some ⟨gr, 0, none⟩) nR sl.rc)
          simpa using this
        have hpX : p ≤ X := by omega
        have hB7 : Below X wr w7 := hO7.toBelow (by omega) (fun i h => by omega)
        have HB7 : Hid (Below p w w7) := hide (HB6.out.trans (hB7.mono (by omega)))
        have hkeep7 : ∀ a u, w1.cell? a = some u → w7.cell? a = some u := fun a u hc => Below.keeps (by rw [hX]; exact HB16.out.trans hB7) (Nat.le_refl _) hc
        have hown7 := own_sameK (w' := w7) HOWN6.out (fun b hb => by
          have := HOWN6.out.lt b hb
          exact hO7.block b this.2 (by omega))
        obtain ⟨g7, h7⟩ := HRD.out.jobs (l := L) hkeep7 hown7 (fun i hi => by
          obtain ⟨q, hq, e1, e2⟩ := HLIN.out i hi
          rw [e1, e2]
          exact (HRD.out.jin q hq).mono (fun b _ => trivial) (fun a u _ hc => hkeep7 a u hc))
        have hRi : ∀ k (hk : k < R.length), ∃ h : k < x.res.length, x.res[k] = R[k] := fun k hk => by
          have e := HRr.out
          refine ⟨by rw [e, List.length_append]; omega, ?_⟩
          simp only [e, List.getElem_append_left hk]
        have hrd7 : SrcRd w7 { x with jobs := L, res := R } { sl with jo := bo, jc := bc, KJ := KR } gc gr g7 0 := by
          refine ⟨h7.cals, ⟨?_, fun _ => HRO.out, fun k hk => ?_, fun k hk => ?_, fun k hk => ?_⟩, h7.jcap, h7.jat, h7.jrow, h7.jin⟩
          · show R.length ≤ sl.rc
            rw [HRL.out]; exact hnc
          · obtain ⟨h, e⟩ := hRi k hk
            have := h7.res.c0 k h
            simp only [e] at this
            exact this
          · obtain ⟨h, e⟩ := hRi k hk
            have := h7.res.c1 k h
            simp only [e] at this
            exact this
          · obtain ⟨h, e⟩ := hRi k hk
            have := h7.res.c2 k h
            simp only [e] at this
            exact this
        have hsx7 : SrcS { x with jobs := L, res := R } := ⟨HSXL.out.cals, ⟨by
            have := HSX.out.res.1
            have e := HNR.out
            have e2 := HRL.out
            show R.length ≤ 12
            omega, fun q hq => HSX.out.res.2 q (by rw [HRr.out]; exact List.mem_append_left _ hq)⟩, HSXL.out.jobs⟩
        have hCk := check_any (HG.out.more (by rw [hp]; exact HB7.out)) hrd7 hsx7
        have hles := HLES.out
        obtain ⟨G7, hG7⟩ : ∃ G7, checkF { x with jobs := L, res := R } = G7 := ⟨_, rfl⟩
        rw [hG7] at hCk hles
        simp only [HLN.out, HRL.out] at hCk
        rw [show sl.ro = some ⟨gr, 0, none⟩ from HRO.out] at hCk
        obtain ⟨qa, qb, qe⟩ := G7
        have HCK7 := hide hCk
        have hcase : (b0 = true ∧ qa = 3 ∧ qe = 21) ∨ (b0 = false ∧ qe = 0) := by
          have e := HB0.out
          cases hb : b0
          · right
            rw [hb] at e
            exact ⟨rfl, hles.1 (fun hh => by rw [ndL_iff.2 hh] at e; cases e)⟩
          · left
            rw [hb] at e
            exact ⟨rfl, hles.2 (ndL_iff.1 e.symm)⟩
        have HCASE := hide hcase
        have z0 : w7.cell? ⟨X, 0, none⟩ = some (.int .i64 x.start) := by rw [cell_of hF7]; rfl
        have z1 : w7.cell? ⟨X, 1, none⟩ = some (.int .i64 x.keep) := by rw [cell_of hF7]; rfl
        have z2 : w7.cell? ⟨X, 2, none⟩ = some (.slice sl.co x.cals.length sl.cc) := by rw [cell_of hF7]; rfl
        have z3 : w7.cell? ⟨X, 3, none⟩ = some (.slice (some ⟨gr, 0, none⟩) nR sl.rc) := by rw [cell_of hF7]; rfl
        have z4 : w7.cell? ⟨X, 4, none⟩ = some (.slice bo i bc) := by rw [cell_of hF7]; rfl
        have hn0 : (0 : Int) ≤ (nR : Int) := Int.natCast_nonneg _
        clear hF7 hO7 hB7 hkeep7 hown7 h7 hRi hrd7 hsx7 hCk hles hG7 hcase HRD HRD6 HLIN HOWN6 HB16 HLES HRr HSX HSXL HG HL2 HB0 HNR HRL HLN HRO HGG HB12
        go_wp2_with fail
        refine HCK7.out.mono ?_
        rintro e w8 ⟨rfl, hb8⟩
        have HB8 := hide (HB7.out.trans (hb8.mono (by have := HB7.out.size; omega)))
        have HK8 := hide (HK.out w8 HB8.out)
        clear hb8 HCK7 HK z0 z1 z2 z3 z4 y0 y1 y2 y3 y4 yf
        rcases HCASE.out with ⟨rfl, rfl, rfl⟩ | ⟨rfl, rfl⟩
        all_goals
          go_wp2_with fail
          refine HK8.out.mono ?_
          rintro e w9 ⟨rfl, hb9⟩
          have HB9 := hide (HB8.out.trans (hb9.mono (by have := HB8.out.size; omega)))
          clear hb9 HK8
          go_wp2
          go_ret
          exact ⟨rfl, HB9.out⟩
end Go.Proofs.YtkpgfhapffijkaaGreatDoor
