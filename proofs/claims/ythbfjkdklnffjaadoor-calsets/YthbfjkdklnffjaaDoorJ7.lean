/- Some parts of the proof, one behind the other. -/
import Derived.Test.YthbfjkdklnffjaaDoorCeG
/- Package cal: days, of And and Or, and of every node. -/
namespace Go.Proofs.YthbfjkdklnffjaaDoor
open Go.ChangeShapes Go.WideShapes Go.ChangeAt Go.RowKit Go.DsMem Go.DsMk
set_option linter.unusedVariables false

set_option maxHeartbeats 4000000 in
set_option maxRecDepth 20000 in
/-- of And and Or: as joined -/
theorem days78 (op : Int) (hop : op = 7 ∨ op = 8) (R N : Nat) (n : Nat) (W w : World) (B : Nat) (co : Option Addr) (cc : Nat) (cs : List (ByteArray × Nd)) (no : Option Addr) (nl nc : Nat) (ko : Option Addr) (kl kc : Nat) (nm : ByteArray) (M : Mo)
    (hj : ∀ w1, Below w.heap.size w w1 → Calls Tryd.prog 42 #[askrV co cs.length cc B, ndV op no nl nc ko kl kc nm, M.val] w1 (Dayd cs w1 B N R)) :
    Calls Tryd.prog 27 #[askrV co cs.length cc B, ndV op no nl nc ko kl kc nm, M.val] w (Dayd cs w B N R) := by
  have HJ := hide hj
  clear hj
  obtain ⟨wA, hwA⟩ : ∃ wA, wA = ((w.alloc (.cells #[.slice co cs.length cc, .map (some B)] 53)).alloc (.cells #[.int .i64 op, .slice no nl nc, .slice ko kl kc, .string nm] 31)).alloc (.cells #[.int .i64 M.y, .int .i64 M.m, .int .i64 M.f, .int .i64 M.s] 67) := ⟨_, rfl⟩
  have HBL : Hid (Below w.heap.size w wA) := by rw [hwA]; exact below3 w _ _ _
  have HCALL := hide (HJ.out wA HBL.out)
  unfold askrV ndV Mo.val moV at *
  rcases hop with rfl | rfl
  all_goals
    go_enter Tryd.func27, Tryd.ntmps27
    go_wp2_with fail
    rw [← hwA]
    refine HCALL.out.mono ?_
    rintro e w2 ⟨rfl, hmem, hon⟩
    have HM2 := hide hmem
    have HON := hide hon
    clear hmem hon
    go_wp2
    go_ret
    exact Dayd.of ⟨rfl, HM2.out, (Only.below HBL.out).trans HON.out (fun _ _ h => h)⟩

theorem dayd_of_gc {cs : List (ByteArray × Nd)} {w : World} {B n m : Nat} {R : Nat} (hm : Memo cs w B n) (hn : n ≤ m) {P : Program} {f : FuncId} {args : Array Value} (h : Calls P f args w fun e w' => e = .returned (.int .u32 R) ∧ Gc w w') : Calls P f args w (Dayd cs w B m R) :=
  h.mono fun e w' ⟨he, hg⟩ => Dayd.of ⟨he, ⟨n, hn, hm.below hg.below⟩, Only.below hg.below⟩

theorem one_num {l : List Int} (h : l.length = 1) : l = [l.getD 0 0] := by match l, h with | [x], _ => rfl
theorem two_num {l : List Int} (h : l.length = 2) : l = [l.getD 0 0, l.getD 1 0] := by match l, h with | [x, y], _ => rfl
end Go.Proofs.YthbfjkdklnffjaaDoor

/- Package cal: days of every node that can be asked. -/
namespace Go.Proofs.YthbfjkdklnffjaaDoor
open Go.ChangeShapes Go.WideShapes Go.ChangeAt Go.RowKit Go.DsMem Go.DsMk
set_option linter.unusedVariables false

theorem shape_at {op : Int} {nl kl : Nat} {nm : ByteArray} (h : shapeB op nl kl nm = true) : (1 ≤ op ∧ op ≤ 10) ∧ (shpN op).1 ≤ (nl : Int) ∧ (nl : Int) ≤ (shpN op).2.1 ∧ (shpN op).2.2.1 ≤ (kl : Int) ∧ (kl : Int) ≤ (shpN op).2.2.2.1 := by
  unfold shapeB at h
  simp only [Bool.and_eq_true, decide_eq_true_eq] at h
  obtain ⟨h1, ⟨⟨⟨h3, h4⟩, h5⟩, h6⟩, _⟩ := h
  exact ⟨h1, h3, h4, h5, h6⟩
theorem rightB_bd {k : Int} (h : DsCal.rightB k = true) : 1 ≤ k ∧ k ≤ 3652059 := by
  unfold DsCal.rightB at h; simpa using h

set_option maxHeartbeats 4000000 in
theorem days_step (k : Nat) (ih : DaysOk k) : DaysOk (k + 1) := by
  intro t v M n W w B co cc cs g o V h hp hv hc h24 hm hM hok hn
  obtain ⟨op, ns, kids, nm, no, nc, ko, kc, kg, kO, K, hnn, hnl, hkl, hkc, hko, hcs, hks⟩ := hv
  obtain ⟨⟨hs, hnu⟩, h5, hne⟩ := hok
  obtain ⟨⟨o1, o10⟩, s1, s2, s3, s4⟩ := shape_at hs
  have hrw : RdI w (.slice no ns.length nc) ns := hnn.below h.below
  have hcase : op = 1 ∨ op = 2 ∨ op = 3 ∨ op = 4 ∨ op = 5 ∨ op = 6 ∨ op = 7 ∨ op = 8 ∨ op = 9 ∨ op = 10 := by omega
  show Calls _ _ #[_, ndV op no ns.length nc ko kids.length kc nm, _] _ _
  rcases hcase with rfl | rfl | rfl | rfl | rfl | rfl | rfl | rfl | rfl | rfl
  · simp [shpN] at s1 s2 s3 s4
    have hl : ns.length = 1 := by omega
    have e1 := one_num hl
    have hb : 0 ≤ ns.getD 0 0 ∧ ns.getD 0 0 ≤ 127 := by
      rw [e1] at hnu; simpa [numsB, betB] using hnu
    obtain ⟨x, hx⟩ := Int.eq_ofNat_of_zero_le hb.1
    rw [hx] at e1
    rw [hl]
    rw [e1] at hrw
    have := h.here.days1 co cs.length cc B x no nc ko kids.length kc nm M hM (by simpa using hrw) (by omega)
    refine dayd_of_gc hm (by omega) ?_
    have er : daysF cs M (k + 1) (.mk 1 ns kids nm) = weekN x ((M.f - 1) % 7) M.s := by simp only [daysF, if_true]; rw [hx]; rfl
    rw [er]; exact this
  · simp [shpN] at s1 s2 s3 s4
    have hb : ∀ q ∈ ns, 1 ≤ q ∧ q ≤ 3652059 := fun q hq => by
      simp [numsB] at hnu; exact rightB_bd (hnu q hq)
    refine dayd_of_gc hm (by omega) ?_
    have er : daysF cs M (k + 1) (.mk 2 ns kids nm) = theseN M.f M.s ns := by simp [daysF]
    rw [er]; exact h.here.days2 co cs.length cc B ns no nc ko kids.length kc nm M hM hrw (by omega) hb
  · simp [shpN] at s1 s2 s3 s4
    have hb : ∀ q ∈ ns, -31 ≤ q ∧ q ≤ 31 := fun q hq => by
      simp [numsB, endB] at hnu; have := hnu q hq; omega
    refine dayd_of_gc hm (by omega) ?_
    have er : daysF cs M (k + 1) (.mk 3 ns kids nm) = daysN M.s ns := by simp [daysF]
    rw [er]; exact h.here.days3 co cs.length cc B ns no nc ko kids.length kc nm M hM hrw (by omega) hb
  · simp [shpN] at s1 s2 s3 s4
    have hl : ns.length = 2 := by omega
    have e1 := two_num hl
    have hb : DsCal.okA (ns.getD 0 0) (ns.getD 1 0) := by
      simp [numsB, betB, endB] at hnu
      simp only [List.getD_eq_getElem?_getD]
      unfold DsCal.okA; omega
    rw [hl]
    rw [e1] at hrw
    refine dayd_of_gc hm (by omega) ?_
    have er : daysF cs M (k + 1) (.mk 4 ns kids nm) = theseN M.f M.s [(DsCal.nres M.f M.s (ns.getD 0 0) (ns.getD 1 0)).1] := by simp [daysF]
    rw [er]; exact h.here.days4 co cs.length cc B _ _ no nc ko kids.length kc nm M hM (by simpa using hrw) hb
  · simp [shpN] at s1 s2 s3 s4
    have hl : ns.length = 1 := by omega
    have e1 := one_num hl
    obtain ⟨t', ht', hk'⟩ := h5 (.inl rfl)
    have hb : -31 ≤ ns.getD 0 0 ∧ ns.getD 0 0 ≤ 31 := by
      rw [e1] at hnu; simp [numsB, endB] at hnu
      simp only [List.getD_eq_getElem?_getD]; omega
    have er : daysF cs M (k + 1) (.mk 5 ns kids nm) = daysN M.s [(nthL (dl (daysF cs M k t')) (ns.getD 0 0) : Int)] := by simp [daysF, ht']
    have ec : costF cs (k + 1) (.mk 5 ns kids nm) = 1 + costF cs k t' := by simp [costF, ht']
    rw [er, ec]
    rw [ec] at hn
    exact days5 k ih (ns.getD 0 0) no ns.length nc ko kids.length kc nm t' M n W w B co cc cs g o V h hp hc h24 hm hM ht' (by rw [← e1]; exact hnn) hb.1 hb.2 hk' hn
  · simp [shpN] at s1 s2 s3 s4
    have hl : ns.length = 2 := by omega
    have e1 := two_num hl
    have hb : okP (ns.getD 0 0) ∧ 1 ≤ ns.getD 1 0 ∧ ns.getD 1 0 ≤ 12 := by
      simp [numsB, betB, oneB] at hnu
      simp only [List.getD_eq_getElem?_getD]
      exact ⟨hnu.1, hnu.2⟩
    rw [hl]
    rw [e1] at hrw
    refine dayd_of_gc hm (by omega) ?_
    have er : daysF cs M (k + 1) (.mk 6 ns kids nm) = fisN M.y M.f M.s (ns.getD 0 0) (ns.getD 1 0) := by simp [daysF]
    rw [er]; exact h.here.days6 co cs.length cc B _ _ no nc ko kids.length kc nm M hM (by simpa using hrw) hb.1 hb.2.1 hb.2.2
  · simp [shpN] at s1 s2 s3 s4
    match kids, hkl, hkc, hko, hcs, hks, hne, s3, s4, hs, hn with
    | c0 :: rest, hkl, hkc, hko, hcs, hks, hne, _, s4, hs, hn =>
      have er : daysF cs M (k + 1) (.mk 7 ns (c0 :: rest) nm) = joinL7 cs M k c0 rest := by simp [daysF, joinL7]
      have ec : costF cs (k + 1) (.mk 7 ns (c0 :: rest) nm) = costL cs k (c0 :: rest) := by simp [costF, costL]
      rw [er, ec]
      rw [ec] at hn
      simp only [List.length_cons] at s4 hkc hcs hks
      have hko' := hko (by simp)
      subst hko'
      refine days78 7 (by omega) _ _ n W w B co cc cs no ns.length nc _ (c0 :: rest).length kc nm M (fun w1 hb => ?_)
      exact joined7 k ih c0 rest K kg kO no ns.length nc kc nm M n W w1 B co cc cs g o V (h.more hb) hp hc h24 (hm.below hb) hM (by omega) hkc hcs (hks 0 (by omega)) (fun j hj => hks (j + 1) (by omega)) (hne (by omega) c0 (by simp)) (fun c hc => hne (by omega) c (by simp [hc])) hn
  · simp [shpN] at s1 s2 s3 s4
    match kids, hkl, hkc, hko, hcs, hks, hne, s3, s4, hs, hn with
    | c0 :: rest, hkl, hkc, hko, hcs, hks, hne, _, s4, hs, hn =>
      have er : daysF cs M (k + 1) (.mk 8 ns (c0 :: rest) nm) = joinL8 cs M k c0 rest := by simp [daysF, joinL8]
      have ec : costF cs (k + 1) (.mk 8 ns (c0 :: rest) nm) = costL cs k (c0 :: rest) := by simp [costF, costL]
      rw [er, ec]
      rw [ec] at hn
      simp only [List.length_cons] at s4 hkc hcs hks
      have hko' := hko (by simp)
      subst hko'
      refine days78 8 (by omega) _ _ n W w B co cc cs no ns.length nc _ (c0 :: rest).length kc nm M (fun w1 hb => ?_)
      exact joined8 k ih c0 rest K kg kO no ns.length nc kc nm M n W w1 B co cc cs g o V (h.more hb) hp hc h24 (hm.below hb) hM (by omega) hkc hcs (hks 0 (by omega)) (fun j hj => hks (j + 1) (by omega)) (hne (by omega) c0 (by simp)) (fun c hc => hne (by omega) c (by simp [hc])) hn
  · simp [shpN] at s1 s2 s3 s4
    match kids, hkl, hkc, hko, hcs, hks, hne, s3, s4, hs, hn with
    | [c], hkl, hkc, hko, hcs, hks, hne, _, _, hs, hn =>
      have er : daysF cs M (k + 1) (.mk 9 ns [c] nm) = difN (allN M.s) (daysF cs M k c) := by simp [daysF]
      have ec : costF cs (k + 1) (.mk 9 ns [c] nm) = 1 + costF cs k c := by simp [costF]
      rw [er, ec]
      rw [ec] at hn
      exact days9 k ih (K 0) kg kO no ns.length nc ko 1 kc nm c M n W w B co cc cs g o V h hp hc h24 hm hM (hko (by simp)) rfl hkc (by simpa using hcs 0 (by simp)) (hks 0 (by simp)) (hne (by omega) c (by simp)) hn
  · obtain ⟨t', ht', hk'⟩ := h5 (.inr rfl)
    have er : daysF cs M (k + 1) (.mk 10 ns kids nm) = daysF cs M k t' := by simp [daysF, ht']
    have ec : costF cs (k + 1) (.mk 10 ns kids nm) = 1 + costF cs k t' := by simp [costF, ht']
    rw [er, ec]
    rw [ec] at hn
    exact days10 k ih no ns.length nc ko kids.length kc nm t' M n W w B co cc cs g o V h hp hc h24 hm hM ht' hk' hn
/-- cal.asker.days -/
theorem days_any2 : ∀ k, DaysOk k
  | 0 => fun t v M n W w B co cc cs g o V _ _ _ _ _ _ _ hok _ => hok.elim
  | k + 1 => days_step k (days_any2 k)
end Go.Proofs.YthbfjkdklnffjaaDoor

/- Package cal: newAsker, asking. -/
namespace Go.Proofs.YthbfjkdklnffjaaDoor
open Go.ChangeShapes Go.WideShapes Go.ChangeAt Go.RowKit Go.DsMem Go.DsMk
set_option linter.unusedVariables false

set_option maxHeartbeats 1000000 in
/-- cal.newAsker -/
theorem Gc.newAsker {W w : World} (h : Gc W w) (co : Option Addr) (cc : Nat) (cs : List (ByteArray × Nd)) :
    Calls Tryd.prog 15 #[.slice co cs.length cc] w fun e w' => ∃ B, e = .returned (askrV co cs.length cc B) ∧ (w.heap.size ≤ B ∧ Memo cs w' B 0) ∧ Gc w w' := by
  have HG := hide h
  clear h
  have hmm := @run_makeMap Tryd.prog
  go_enter Tryd.func15, Tryd.ntmps15
  go_wp2
  refine bodyPost_ret (v := askrV co cs.length cc (w.heap.size + 1)) (by simp [results, Tryd.results15, go_sem, askrV]) rfl ⟨w.heap.size + 1, rfl, ⟨by omega, ?_⟩, (HG.out.here.alloc _).alloc _⟩
  refine ⟨.map [], ?_, ⟨_, rfl⟩, fun c hc M kl _ _ hh => by simp [Maps.has] at hh⟩
  have := World.ownsMap_made (H := Unit) (w.alloc (.cells #[.slice co cs.length cc, .map (some (w.heap.size + 1))] 53)) Tryd.prog 91 (plainElem Tryd.prog 69)
  simpa using this

/-- what asking's function holds: the month asked last in pa, its days in pd, the asker's box in pk, the node's in pn -/
structure AskSt (cs : List (ByteArray × Nd)) (k : Nat) (t : Nd) (v : NVal) (co : Option Addr) (cc B : Nat) (pa pk pn pd : Nat) (w : World) (n : Nat) : Prop where
  at_ : ∃ y m f s : Int, ∃ d : Nat, w.heap[pa]? = some (.cells #[.int .i64 y, .int .i64 m, .int .i64 f, .int .i64 s] 67 (0, 0)) ∧ w.heap[pd]? = some (.cells #[.int .u32 d] 69 (0, 0)) ∧
    ((f = 0 ∧ s = 0) ∨ (IsMo y m f s ∧ d = daysF cs ⟨y, m, f, s⟩ k t))
  ask : w.heap[pk]? = some (.cells #[.slice co cs.length cc, .map (some B)] 53 (0, 0))
  node : w.heap[pn]? = some (.cells #[.int .i64 v.op, .slice v.no v.nl v.nc, .slice v.ko v.kl v.kc, .string v.nm] 31 (0, 0))
  memo : Memo cs w B n
set_option maxHeartbeats 1000000 in
/-- cal.asker.asking -/
theorem Gc.asking {W w : World} (h : Gc W w) (co : Option Addr) (cc : Nat) (cs : List (ByteArray × Nd)) (B n : Nat) (hm : Memo cs w B n) (k : Nat) (t : Nd) (v : NVal) :
    Calls Tryd.prog 16 #[askrV co cs.length cc B, v.val] w fun e w' => e = .returned (.func (.func 25) #[] #[.pointer (some ⟨w.heap.size + 2, 0, none⟩), .pointer (some ⟨w.heap.size, 0, none⟩), .pointer (some ⟨w.heap.size + 1, 0, none⟩), .pointer (some ⟨w.heap.size + 3, 0, none⟩)]) ∧
      AskSt cs k t v co cc B (w.heap.size + 2) w.heap.size (w.heap.size + 1) (w.heap.size + 3) w' n ∧ Gc w w' := by
  have HG := hide h
  have HM := hide hm
  clear h hm
  unfold askrV NVal.val ndV
  go_enter Tryd.func16, Tryd.ntmps16
  go_wp2
  go_ret
  refine ⟨rfl, ?_, (((HG.out.here.alloc _).alloc _).alloc _).alloc _⟩
  obtain ⟨w1, h1⟩ : ∃ w1, w1 = w.alloc (.cells #[.slice co cs.length cc, .map (some B)] 53) := ⟨_, rfl⟩
  have z1 : w1.heap.size = w.heap.size + 1 := by rw [h1]; simp
  have e1 : w1.heap[w.heap.size]? = some (.cells #[.slice co cs.length cc, .map (some B)] 53 (0, 0)) := by rw [h1]; exact heap_alloc_new w _
  have m1 : Memo cs w1 B n := by rw [h1]; exact HM.out.below ((Below.refl _ _).alloc (Nat.le_refl _) _)
  rw [← h1]
  clear h1
  obtain ⟨w2, h2⟩ : ∃ w2, w2 = w1.alloc (.cells #[.int .i64 v.op, .slice v.no v.nl v.nc, .slice v.ko v.kl v.kc, .string v.nm] 31) := ⟨_, rfl⟩
  have z2 : w2.heap.size = w.heap.size + 2 := by rw [h2]; simp [z1]
  have f1 : w2.heap[w.heap.size]? = some (.cells #[.slice co cs.length cc, .map (some B)] 53 (0, 0)) := by rw [h2]; exact heap_keep e1
  have e2 : w2.heap[w.heap.size + 1]? = some (.cells #[.int .i64 v.op, .slice v.no v.nl v.nc, .slice v.ko v.kl v.kc, .string v.nm] 31 (0, 0)) := by rw [← z1, h2]; exact heap_alloc_new w1 _
  have m2 : Memo cs w2 B n := by rw [h2]; exact m1.below ((Below.refl _ _).alloc (Nat.le_refl _) _)
  rw [← h2]
  clear h2
  obtain ⟨w3, h3⟩ : ∃ w3, w3 = w2.alloc (.cells #[.int .i64 0, .int .i64 0, .int .i64 0, .int .i64 0] 67) := ⟨_, rfl⟩
  have z3 : w3.heap.size = w.heap.size + 3 := by rw [h3]; simp [z2]
  have g1 : w3.heap[w.heap.size]? = some (.cells #[.slice co cs.length cc, .map (some B)] 53 (0, 0)) := by rw [h3]; exact heap_keep f1
  have g2 : w3.heap[w.heap.size + 1]? = some (.cells #[.int .i64 v.op, .slice v.no v.nl v.nc, .slice v.ko v.kl v.kc, .string v.nm] 31 (0, 0)) := by rw [h3]; exact heap_keep e2
  have e3 : w3.heap[w.heap.size + 2]? = some (.cells #[.int .i64 0, .int .i64 0, .int .i64 0, .int .i64 0] 67 (0, 0)) := by rw [← z2, h3]; exact heap_alloc_new w2 _
  have m3 : Memo cs w3 B n := by rw [h3]; exact m2.below ((Below.refl _ _).alloc (Nat.le_refl _) _)
  rw [← h3]
  clear h3
  have e4 := heap_alloc_new w3 (.cells #[.int .u32 0] 69)
  rw [z3] at e4
  exact ⟨⟨0, 0, 0, 0, 0, heap_keep e3, e4, .inl ⟨rfl, rfl⟩⟩, heap_keep g1, heap_keep g2, m3.below ((Below.refl _ _).alloc (Nat.le_refl _) _)⟩
end Go.Proofs.YthbfjkdklnffjaaDoor

