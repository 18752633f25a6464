/- Package cal: Due. -/
import Derived.Test.YthbfjkdklnffjaaDoorCeN
namespace Go.Proofs.YthbfjkdklnffjaaDoor
open Go.ChangeShapes Go.WideShapes Go.ChangeAt Go.RowKit Go.DsMem Go.DsMk
set_option linter.unusedVariables false

/-- two made functions beside one another: what the one holds stays while the other is asked -/
theorem AskSt.other {cs : List (ByteArray × Nd)} {k : Nat} {t : Nd} {v : NVal} {co : Option Addr} {cc B pa pk pn pd : Nat} {w w' : World} {n n' : Nat} {S : Nat → Prop} (h : AskSt cs k t v co cc B pa pk pn pd w n) (ho : Only S w w') (hm : Memo cs w' B n') (ha : ¬ S pa) (hk : ¬ S pk) (hn : ¬ S pn) (hd : ¬ S pd) : AskSt cs k t v co cc B pa pk pn pd w' n' := by
  obtain ⟨⟨y, m, f, s, d, h1, h2, h3⟩, h4, h5, h6⟩ := h
  exact ⟨⟨y, m, f, s, d, by rw [ho.block pa (block_lt h1) ha]; exact h1, by rw [ho.block pd (block_lt h2) hd]; exact h2, h3⟩, by rw [ho.block pk (block_lt h4) hk]; exact h4, by rw [ho.block pn (block_lt h5) hn]; exact h5, hm⟩
/-- two functions, made of two nodes over one map -/
structure Two (cs : List (ByteArray × Nd)) (t t' : Nd) (v v' : NVal) (co : Option Addr) (cc B p q : Nat) (W w : World) (n : Nat) : Prop where
  one : AskSt cs 257 t v co cc B (p + 2) p (p + 1) (p + 3) w n
  two : AskSt cs 257 t' v' co cc B (q + 2) q (q + 1) (q + 3) w n
  gc : Gc W w
theorem ask_two {cs : List (ByteArray × Nd)} {t t' : Nd} {v v' : NVal} {co : Option Addr} {cc B p q : Nat} {W w : World} {n : Nat} (h : Two cs t t' v v' co cc B p q W w n) (h1 : W.heap.size ≤ B) (h2 : B < p) (h3 : B < q) (h4 : p + 3 < q ∨ q + 3 < p) {g o : Nat} {V : Nat → NVal} (hv : NdAt W v t) (hc : CalsAt W co cc cs g o V) (h24 : cs.length ≤ 24) (hok : okD cs 257 t) (hcost : costF cs 257 t ≤ 256) (hn : n ≤ 50000) {x : Int} (x1 : 1 ≤ x) (x2 : x ≤ 3652059) {b : Bool} (hb : inB cs 257 t x = b) :
    Calls Tryd.prog 25 #[.int .i64 x, .pointer (some ⟨p + 2, 0, none⟩), .pointer (some ⟨p, 0, none⟩), .pointer (some ⟨p + 1, 0, none⟩), .pointer (some ⟨p + 3, 0, none⟩)] w fun e w' => e = .returned (.bool b) ∧ Two cs t t' v v' co cc B p q W w' (n + 256) ∧ Only (fun i => i = B ∨ i = p + 2 ∨ i = p + 3) w w' := by
  refine (askFn cs 257 t v co cc B (p + 2) p (p + 1) (p + 3) n x W w g o V h.gc ⟨by omega, by omega, by omega, by omega, by omega, by omega, by omega, by omega, by omega, by omega, by omega, by omega⟩ hv hc h24 hok (by omega) x1 x2 h.one).mono ?_
  rintro e w' ⟨ha, ⟨n', hn', hst'⟩, ho⟩
  have hm' : Memo cs w' B (n + 256) := hst'.memo.mono (by omega)
  exact ⟨by rw [ha.is, hb], ⟨⟨hst'.at_, hst'.ask, hst'.node, hm'⟩, h.two.other ho hm' (by omega) (by omega) (by omega) (by omega), Only.gcS h.gc ho (fun i hi => by rcases hi with rfl | rfl | rfl <;> omega)⟩, ho⟩
theorem Two.swap {cs : List (ByteArray × Nd)} {t t' : Nd} {v v' : NVal} {co : Option Addr} {cc B p q : Nat} {W w : World} {n : Nat} (h : Two cs t t' v v' co cc B p q W w n) : Two cs t' t v' v co cc B q p W w n := ⟨h.two, h.one, h.gc⟩
theorem Two.below {cs : List (ByteArray × Nd)} {t t' : Nd} {v v' : NVal} {co : Option Addr} {cc B p q : Nat} {W w w' : World} {n : Nat} (h : Two cs t t' v v' co cc B p q W w n) (hb : Below w.heap.size w w') : Two cs t t' v v' co cc B p q W w' n := ⟨h.one.below hb, h.two.below hb, h.gc.more hb⟩
/-- what Due's loop finds -/
def dueL (is works : Int → Bool) : List Int → Bool
  | [] => false
  | x :: l => if works x = true then false else if is x = true then true else dueL is works l
noncomputable def dueF (cs : List (ByteArray × Nd)) (t t' : Nd) (dir day : Int) : Bool × Int :=
  if ¬ refF cs t day = 0 then (false, refF cs t day) else if ¬ refF cs t' day = 0 then (false, refF cs t' day) else if ¬ (-1 ≤ dir ∧ dir ≤ 1) then (false, 1) else
    if inB cs 257 t' day = false then (false, 0) else if inB cs 257 t day = true then (true, 0) else (dueL (inB cs 257 t) (inB cs 257 t') (awayF day (-dir)), 0)
/-- what Due's loop keeps -/
structure DuSt (cs : List (ByteArray × Nd)) (t t' : Nd) (v v' : NVal) (co : Option Addr) (cc B p q base : Nat) (u : Value) (L : List Int) (W wr : World) (i : Nat) : Prop where
  two : Two cs t t' v v' co cc B p q W wr (512 * (i + 1))
  own : wr.ownsRow base 2 1 u L.length (i64s L)
  same : dueL (inB cs 257 t) (inB cs 257 t') L = dueL (inB cs 257 t) (inB cs 257 t') (L.drop i)
set_option maxHeartbeats 8000000 in
set_option maxRecDepth 20000 in
/-- cal.Due -/
theorem Gc.due {W w : World} (h : Gc W w) (co : Option Addr) (cc : Nat) (cs : List (ByteArray × Nd)) (g o : Nat) (V : Nat → NVal) (hc : CalsAt w co cc cs g o V) (t t' : Nd) (v v' : NVal) (hv : NdAt w v t) (hv' : NdAt w v' t') (dir day : Int) (hdir1 : -9223372036854775808 ≤ dir) (hdir2 : dir ≤ 9223372036854775807) :
    Calls Tryd.prog 11 #[.slice co cs.length cc, v.val, v'.val, .int .i64 dir, .int .i64 day] w fun e w' => e = .returned (.tuple #[.bool (dueF cs t t' dir day).1, .int .i64 (dueF cs t t' dir day).2]) ∧ Gc W w' := by
  have HG := hide h
  have HC := hide hc
  have HV := hide hv
  have HV' := hide hv'
  clear h hc hv hv'
  obtain ⟨R, hR⟩ : ∃ R, refF cs t day = R := ⟨_, rfl⟩
  have HR := hide hR
  clear hR
  obtain ⟨R', hR'⟩ : ∃ R, refF cs t' day = R := ⟨_, rfl⟩
  have HR' := hide hR'
  clear hR'
  obtain ⟨Z, hZ⟩ : ∃ Z, dueF cs t t' dir day = Z := ⟨_, rfl⟩
  rw [hZ]
  have HZ := hide hZ
  clear hZ
  unfold NVal.val ndV
  go_enter Tryd.func11, Tryd.ntmps11
  go_wp2_with fail
  obtain ⟨wA, hwA⟩ : ∃ wA, wA = (w.alloc (.cells #[.int .i64 v.op, .slice v.no v.nl v.nc, .slice v.ko v.kl v.kc, .string v.nm] 31)).alloc (.cells #[.int .i64 v'.op, .slice v'.no v'.nl v'.nc, .slice v'.ko v'.kl v'.kc, .string v'.nm] 31) := ⟨_, rfl⟩
  have HBA : Hid (Below w.heap.size w wA) := by refine hide ?_; rw [hwA]; exact ((Below.refl _ _).alloc (Nat.le_refl _) _).alloc (by simp) _
  have HX : Hid (wA.heap[w.heap.size]? = some (.cells #[.int .i64 v.op, .slice v.no v.nl v.nc, .slice v.ko v.kl v.kc, .string v.nm] 31 (0, 0))) := by refine hide ?_; rw [hwA]; exact heap_keep (heap_alloc_new w _)
  have HX' : Hid (wA.heap[w.heap.size + 1]? = some (.cells #[.int .i64 v'.op, .slice v'.no v'.nl v'.nc, .slice v'.ko v'.kl v'.kc, .string v'.nm] 31 (0, 0))) := by
    refine hide ?_
    have := heap_alloc_new (w.alloc (.cells #[.int .i64 v.op, .slice v.no v.nl v.nc, .slice v.ko v.kl v.kc, .string v.nm] 31)) (.cells #[.int .i64 v'.op, .slice v'.no v'.nl v'.nc, .slice v'.ko v'.kl v'.kc, .string v'.nm] 31)
    rw [← hwA] at this
    simpa using this
  rw [← hwA]
  obtain ⟨p, hp⟩ : ∃ p, p = w.heap.size := ⟨_, rfl⟩
  rw [← hp]
  have HP := hide hp
  clear hwA hp
  refine ((HG.out.here.more HBA.out).here.refuse co cc cs g o V (HC.out.grew HBA.out) t v (HV.out.grew HBA.out) day).mono ?_
  rw [HR.out]
  rintro e wR ⟨rfl, hgR⟩
  have HGR := hide hgR
  have hX : wR.heap[p]? = some (.cells #[.int .i64 v.op, .slice v.no v.nl v.nc, .slice v.ko v.kl v.kc, .string v.nm] 31 (0, 0)) := by
    have hx := HX.out
    rw [← HP.out] at hx
    rw [hgR.below.block p (block_lt hx)]; exact hx
  have hX' : wR.heap[p + 1]? = some (.cells #[.int .i64 v'.op, .slice v'.no v'.nl v'.nc, .slice v'.ko v'.kl v'.kc, .string v'.nm] 31 (0, 0)) := by
    have hx := HX'.out
    rw [← HP.out] at hx
    rw [hgR.below.block (p + 1) (block_lt hx)]; exact hx
  have HXR := hide hX
  have HXR' := hide hX'
  have hWR : Below w.heap.size w wR := HBA.out.trans (HGR.out.below.mono HBA.out.size)
  have HWR := hide hWR
  clear hX hX' hgR hWR
  rcases Decidable.em (R = 0) with h0 | h0
  rotate_left
  · go_wp2
    go_ret2
    refine ⟨?_, HG.out.more HWR.out⟩
    have hz : Z = (false, R) := by rw [← HZ.out]; unfold dueF; rw [if_pos (by rw [HR.out]; exact h0), HR.out]
    rw [hz]; rfl
  subst h0
  have x0 : wR.cell? ⟨p + 1, 0, none⟩ = some (.int .i64 v'.op) := by rw [cell_of HXR'.out]; rfl
  have x1 : wR.cell? ⟨p + 1, 1, none⟩ = some (.slice v'.no v'.nl v'.nc) := by rw [cell_of HXR'.out]; rfl
  have x2 : wR.cell? ⟨p + 1, 2, none⟩ = some (.slice v'.ko v'.kl v'.kc) := by rw [cell_of HXR'.out]; rfl
  have x3 : wR.cell? ⟨p + 1, 3, none⟩ = some (.string v'.nm) := by rw [cell_of HXR'.out]; rfl
  go_wp2_with fail
  refine ((HG.out.here.more HWR.out).here.refuse co cc cs g o V (HC.out.grew HWR.out) t' v' (HV'.out.grew HWR.out) day).mono ?_
  rw [HR'.out]
  rintro e wQ ⟨rfl, hgQ⟩
  have HGQ := hide hgQ
  have HXQ : Hid (wQ.heap[p]? = some (.cells #[.int .i64 v.op, .slice v.no v.nl v.nc, .slice v.ko v.kl v.kc, .string v.nm] 31 (0, 0))) := by refine hide ?_; rw [hgQ.below.block p (block_lt HXR.out)]; exact HXR.out
  have HXQ' : Hid (wQ.heap[p + 1]? = some (.cells #[.int .i64 v'.op, .slice v'.no v'.nl v'.nc, .slice v'.ko v'.kl v'.kc, .string v'.nm] 31 (0, 0))) := by refine hide ?_; rw [hgQ.below.block (p + 1) (block_lt HXR'.out)]; exact HXR'.out
  have HWQ : Hid (Below w.heap.size w wQ) := HWR.out.trans (hgQ.below.mono HWR.out.size)
  clear hgQ x0 x1 x2 x3
  rcases Decidable.em (R' = 0) with h0 | h0
  rotate_left
  · go_wp2
    go_ret2
    refine ⟨?_, HG.out.more HWQ.out⟩
    have hz : Z = (false, R') := by rw [← HZ.out]; unfold dueF; rw [if_neg (by rw [HR.out]; decide), if_pos (by rw [HR'.out]; exact h0), HR'.out]
    rw [hz]; rfl
  subst h0
  go_wp2_with fail
  obtain ⟨bd, hbd⟩ : ∃ b, decide (-1 ≤ dir ∧ dir ≤ 1) = b := ⟨_, rfl⟩
  refine (isDir_any dir wQ).mono ?_
  rw [hbd]
  have HBD := hide hbd
  clear hbd
  rintro e w1 ⟨rfl, hww⟩
  have hw' := hww.symm
  subst hw'
  clear hww
  cases bd with
  | false =>
    go_wp2
    go_ret2
    refine ⟨?_, HG.out.more HWQ.out⟩
    have hz : Z = (false, 1) := by rw [← HZ.out]; unfold dueF; rw [if_neg (by rw [HR.out]; decide), if_neg (by rw [HR'.out]; decide), if_pos (of_decide_eq_false HBD.out)]
    rw [hz]; rfl
  | true =>
    have hdd := of_decide_eq_true HBD.out
    obtain ⟨hdd1, hdd2⟩ := hdd
    have HOKS := hide (refF_ok HR.out)
    have HOKS' := hide (refF_ok HR'.out)
    go_wp2_with fail
    refine (Gc.newAsker (W := wQ) HGQ.out.here co cc cs).mono ?_
    rintro e w2 ⟨B, rfl, ⟨hB, hm2⟩, hg2⟩
    have HM2 := hide hm2
    have HBB := hide hB
    have HG2 := hide hg2
    clear hm2 hB hg2
    unfold askrV
    go_wp2_with fail
    obtain ⟨wD, hwD⟩ : ∃ wD, wD = w2.alloc (.cells #[.slice co cs.length cc, .map (some B)] 53) := ⟨_, rfl⟩
    obtain ⟨r, hr⟩ : ∃ r, r = w2.heap.size := ⟨_, rfl⟩
    have HBD2 : Hid (Below w2.heap.size w2 wD) := by refine hide ?_; rw [hwD]; exact (Below.refl _ _).alloc (Nat.le_refl _) _
    have HRD : Hid (wD.heap[r]? = some (.cells #[.slice co cs.length cc, .map (some B)] 53 (0, 0))) := by refine hide ?_; rw [hwD, hr]; exact heap_alloc_new w2 _
    rw [← hwD, ← hr]
    have HRR := hide hr
    clear hwD hr
    have HWD : Hid (Below wQ.heap.size wQ wD) := HG2.out.below.trans (HBD2.out.mono HG2.out.below.size)
    have HXD : Hid (wD.heap[p]? = some (.cells #[.int .i64 v.op, .slice v.no v.nl v.nc, .slice v.ko v.kl v.kc, .string v.nm] 31 (0, 0))) := by refine hide ?_; rw [HWD.out.block p (block_lt HXQ.out)]; exact HXQ.out
    have HXD' : Hid (wD.heap[p + 1]? = some (.cells #[.int .i64 v'.op, .slice v'.no v'.nl v'.nc, .slice v'.ko v'.kl v'.kc, .string v'.nm] 31 (0, 0))) := by refine hide ?_; rw [HWD.out.block (p + 1) (block_lt HXQ'.out)]; exact HXQ'.out
    have HMD : Hid (Memo cs wD B 0) := HM2.out.below HBD2.out
    have HGD : Hid (Gc w wD) := HG.out.here.more (HWQ.out.trans (HWD.out.mono HWQ.out.size))
    have KP : Hid (∀ w', Below wD.heap.size wD.drew w' → w'.cell? ⟨p, 0, none⟩ = some (.int .i64 v.op) ∧ w'.cell? ⟨p, 1, none⟩ = some (.slice v.no v.nl v.nc) ∧ w'.cell? ⟨p, 2, none⟩ = some (.slice v.ko v.kl v.kc) ∧ w'.cell? ⟨p, 3, none⟩ = some (.string v.nm) ∧ w'.cell? ⟨p + 1, 0, none⟩ = some (.int .i64 v'.op) ∧ w'.cell? ⟨p + 1, 1, none⟩ = some (.slice v'.no v'.nl v'.nc) ∧ w'.cell? ⟨p + 1, 2, none⟩ = some (.slice v'.ko v'.kl v'.kc) ∧ w'.cell? ⟨p + 1, 3, none⟩ = some (.string v'.nm) ∧ w'.cell? ⟨r, 0, none⟩ = some (.slice co cs.length cc) ∧ w'.cell? ⟨r, 1, none⟩ = some (.map (some B))) := fun w' hb =>
      ⟨Below.keeps hb (Nat.le_refl _) (a := ⟨p, 0, none⟩) (by show wD.cell? _ = _; rw [cell_of HXD.out]; rfl), Below.keeps hb (Nat.le_refl _) (a := ⟨p, 1, none⟩) (by show wD.cell? _ = _; rw [cell_of HXD.out]; rfl), Below.keeps hb (Nat.le_refl _) (a := ⟨p, 2, none⟩) (by show wD.cell? _ = _; rw [cell_of HXD.out]; rfl), Below.keeps hb (Nat.le_refl _) (a := ⟨p, 3, none⟩) (by show wD.cell? _ = _; rw [cell_of HXD.out]; rfl), Below.keeps hb (Nat.le_refl _) (a := ⟨p + 1, 0, none⟩) (by show wD.cell? _ = _; rw [cell_of HXD'.out]; rfl), Below.keeps hb (Nat.le_refl _) (a := ⟨p + 1, 1, none⟩) (by show wD.cell? _ = _; rw [cell_of HXD'.out]; rfl), Below.keeps hb (Nat.le_refl _) (a := ⟨p + 1, 2, none⟩) (by show wD.cell? _ = _; rw [cell_of HXD'.out]; rfl), Below.keeps hb (Nat.le_refl _) (a := ⟨p + 1, 3, none⟩) (by show wD.cell? _ = _; rw [cell_of HXD'.out]; rfl), Below.keeps hb (Nat.le_refl _) (a := ⟨r, 0, none⟩) (by show wD.cell? _ = _; rw [cell_of HRD.out]; rfl), Below.keeps hb (Nat.le_refl _) (a := ⟨r, 1, none⟩) (by show wD.cell? _ = _; rw [cell_of HRD.out]; rfl)⟩
    obtain ⟨k0, k1, k2, k3, k4, k5, k6, k7, k8, k9⟩ := KP.out wD.drew (Below.refl _ _)
    first
      | (go_region_held3 (fun w' => w'.cell? ⟨p, 0, none⟩ = some (.int .i64 v.op) ∧ w'.cell? ⟨p, 1, none⟩ = some (.slice v.no v.nl v.nc) ∧ w'.cell? ⟨p, 2, none⟩ = some (.slice v.ko v.kl v.kc) ∧ w'.cell? ⟨p, 3, none⟩ = some (.string v.nm) ∧ w'.cell? ⟨p + 1, 0, none⟩ = some (.int .i64 v'.op) ∧ w'.cell? ⟨p + 1, 1, none⟩ = some (.slice v'.no v'.nl v'.nc) ∧ w'.cell? ⟨p + 1, 2, none⟩ = some (.slice v'.ko v'.kl v'.kc) ∧ w'.cell? ⟨p + 1, 3, none⟩ = some (.string v'.nm) ∧ w'.cell? ⟨r, 0, none⟩ = some (.slice co cs.length cc) ∧ w'.cell? ⟨r, 1, none⟩ = some (.map (some B)))
          (first | go_keep | (exact KP.out _ (by assumption)))
          (first
            | (go_at_call 16; refine (Gc.asking (W := wD.drew) HGD.out.drew.here co cc cs B 0 (HMD.out.below (Below.refl _ _).drew) 257 t v).mono ?_; rintro e w3 ⟨rfl, hst, hg3⟩; have hb3 : Below wD.heap.size wD.drew w3 := hg3.below)
            | (go_at_call 16; refine (Gc.asking (W := w3) hg3.here.here co cc cs B 0 hst.memo 257 t' v').mono ?_; rintro e w4 ⟨rfl, hst', hg4⟩; have hb4 : Below wD.heap.size wD.drew w4 := hb3.trans (hg4.below.mono hb3.size))))
      | fail
    have hQ1 : wD.heap.size + 3 < w3.heap.size := block_lt hst.at_.choose_spec.choose_spec.choose_spec.choose_spec.choose_spec.2.1
    have hQ2 : w3.heap.size + 3 < w4.heap.size := block_lt hst'.at_.choose_spec.choose_spec.choose_spec.choose_spec.choose_spec.2.1
    have hB1 : w.heap.size ≤ B := Nat.le_trans HWQ.out.size HBB.out
    have hB2 : B < wD.heap.size := HMD.out.lt
    have hB3 : B < w3.heap.size := by omega
    have HTW : Hid (Two cs t t' v v' co cc B wD.heap.size w3.heap.size w w4 0) := ⟨hst.below hg4.below, hst', HGD.out.more ((Below.refl _ _).drew.trans hb4)⟩
    clear hst hst' hg3 hg4 hb3 hb4 k0 k1 k2 k3 k4 k5 k6 k7 k8 k9
    generalize hPe : wD.heap.size = P at *
    generalize hQe : w3.heap.size = Q at *
    have ASK1 : Hid (∀ (wx : World) (n : Nat) (x : Int), Two cs t t' v v' co cc B P Q w wx n → n ≤ 50000 → 1 ≤ x → x ≤ 3652059 → ∀ b, inB cs 257 t x = b →
        Calls Tryd.prog 25 #[.int .i64 x, .pointer (some ⟨P + 2, 0, none⟩), .pointer (some ⟨P, 0, none⟩), .pointer (some ⟨P + 1, 0, none⟩), .pointer (some ⟨P + 3, 0, none⟩)] wx fun e w' => e = .returned (.bool b) ∧ Two cs t t' v v' co cc B P Q w w' (n + 256) ∧ Only (fun i => i < Q + 4) wx w') := fun wx n x htw hn x1 x2 b hb => by
      refine (ask_two htw hB1 hB2 hB3 (.inl hQ1) HV.out HC.out HOKS.out.1 HOKS.out.2.2.2.1 HOKS.out.2.2.2.2 hn x1 x2 hb).mono ?_
      rintro e w' ⟨he, h2, ho⟩
      exact ⟨he, h2, ho.mono (fun i _ hi => by show i < Q + 4; rcases hi with rfl | rfl | rfl <;> omega)⟩
    have ASK2 : Hid (∀ (wx : World) (n : Nat) (x : Int), Two cs t t' v v' co cc B P Q w wx n → n ≤ 50000 → 1 ≤ x → x ≤ 3652059 → ∀ b, inB cs 257 t' x = b →
        Calls Tryd.prog 25 #[.int .i64 x, .pointer (some ⟨Q + 2, 0, none⟩), .pointer (some ⟨Q, 0, none⟩), .pointer (some ⟨Q + 1, 0, none⟩), .pointer (some ⟨Q + 3, 0, none⟩)] wx fun e w' => e = .returned (.bool b) ∧ Two cs t t' v v' co cc B P Q w w' (n + 256) ∧ Only (fun i => i < Q + 4) wx w') := fun wx n x htw hn x1 x2 b hb => by
      refine (ask_two htw.swap hB1 hB3 hB2 (.inr hQ1) HV'.out HC.out HOKS'.out.1 HOKS'.out.2.2.2.1 HOKS'.out.2.2.2.2 hn x1 x2 hb).mono ?_
      rintro e w' ⟨he, h2, ho⟩
      exact ⟨he, h2.swap, ho.mono (fun i _ hi => by show i < Q + 4; rcases hi with rfl | rfl | rfl <;> omega)⟩
    clear hPe hQe
    go_wp2_with fail
    obtain ⟨b0, hb0⟩ : ∃ b, inB cs 257 t' day = b := ⟨_, rfl⟩
    refine (ASK2.out w4 0 day HTW.out (by omega) HOKS.out.2.1 HOKS.out.2.2.1 b0 hb0).mono ?_
    rintro e w5 ⟨rfl, htw5, ho5⟩
    have HB0 := hide hb0
    have HTW5 := hide htw5
    have hsz5 := ho5.size
    clear hb0 htw5 ho5
    cases b0 with
    | false =>
      go_wp2
      go_ret2
      refine ⟨?_, HG.out.more HTW5.out.gc.below⟩
      have hz : Z = (false, 0) := by rw [← HZ.out]; unfold dueF; rw [if_neg (by rw [HR.out]; decide), if_neg (by rw [HR'.out]; decide), if_neg (by omega), if_pos HB0.out]
      rw [hz]; rfl
    | true =>
      go_wp2_with fail
      obtain ⟨b1, hb1⟩ : ∃ b, inB cs 257 t day = b := ⟨_, rfl⟩
      refine (ASK1.out w5 _ day HTW5.out (by omega) HOKS.out.2.1 HOKS.out.2.2.1 b1 hb1).mono ?_
      rintro e w6 ⟨rfl, htw6, ho6⟩
      have HB1 := hide hb1
      have HTW6 := hide htw6
      have hsz6 := ho6.size
      clear hb1 htw6 ho6
      cases b1 with
      | true =>
        go_wp2
        go_ret2
        refine ⟨?_, HG.out.more HTW6.out.gc.below⟩
        have hz : Z = (true, 0) := by rw [← HZ.out]; unfold dueF; rw [if_neg (by rw [HR.out]; decide), if_neg (by rw [HR'.out]; decide), if_neg (by omega), if_neg (by rw [HB0.out]; decide), if_pos HB1.out]
        rw [hz]; rfl
      | false =>
        go_wp2_with fail
        have hlen := awayF_len day (-dir)
        have HMEM : Hid (∀ x ∈ awayF day (-dir), 1 ≤ x ∧ x ≤ 3652059) := fun x hx => awayF_mem hx
        have HZ2 : Hid (Z = (dueL (inB cs 257 t) (inB cs 257 t') (awayF day (-dir)), 0)) := by
          refine hide ?_
          rw [← HZ.out]; unfold dueF; rw [if_neg (by rw [HR.out]; decide), if_neg (by rw [HR'.out]; decide), if_neg (by omega), if_neg (by rw [HB0.out]; decide), if_neg (by rw [HB1.out]; decide)]
        refine (HTW6.out.gc.here.awayAny day (-dir) HOKS.out.2.1 HOKS.out.2.2.1 (by omega) (by omega)).mono ?_
        generalize awayF day (-dir) = L at *
        rintro e w7 ⟨u, rfl, hown7, hg7⟩
        have HS7 : Hid (DuSt cs t t' v v' co cc B P Q w6.heap.size u L w w7 0) := ⟨HTW6.out.below hg7.below, hown7, rfl⟩
        obtain ⟨uo, ucap, rfl, hucap⟩ := own_shape hown7
        clear hown7 hg7
        go_wp2
        go_loopw [56] (fun tt wr => ∃ i : Nat, i ≤ L.length ∧ tt = .int .i64 i ∧ DuSt cs t t' v v' co cc B P Q w6.heap.size (.slice uo L.length ucap) L w wr i) (fun tt _ => L.length - (intOf tt).toNat)
        case atStart => exact ⟨0, Nat.zero_le _, rfl, HS7.out⟩
        case round =>
          obtain ⟨i, hi', rfl, hsh⟩ := hrel
          have HSH := hide hsh
          by_cases hlt : i < L.length
          · obtain ⟨ao', cap', hv, -, hnil, hrd⟩ := RdI.own hsh.own
            simp only [Value.slice.injEq] at hv
            obtain ⟨rfl, -, rfl⟩ := hv
            obtain ⟨a, rfl⟩ : ∃ a, uo = some a := by
              cases uo with
              | none => have := (hnil rfl).1; omega
              | some a => exact ⟨a, rfl⟩
            have hcl := hrd a rfl i L[i] (List.getElem?_eq_getElem hlt)
            obtain ⟨hx1, hx2⟩ := HMEM.out L[i] (List.getElem_mem hlt)
            have HDR : Hid (dueL (inB cs 257 t) (inB cs 257 t') L = dueL (inB cs 257 t) (inB cs 257 t') (L[i] :: L.drop (i + 1))) := by
              refine hide ?_
              rw [hsh.same, List.drop_eq_getElem_cons hlt]
            generalize L[i] = x at *
            clear hrd hsh
            obtain ⟨bx, hbx⟩ : ∃ b, inB cs 257 t' x = b := ⟨_, rfl⟩
            have HBX := hide hbx
            obtain ⟨by_, hby⟩ : ∃ b, inB cs 257 t x = b := ⟨_, rfl⟩
            have HBY := hide hby
            clear hbx hby
            go_wp2_with fail
            refine (ASK2.out wr _ x HSH.out.two (by omega) hx1 hx2 bx HBX.out).mono ?_
            rintro e w8 ⟨rfl, htw8, ho8⟩
            have hown8 : w8.ownsRow w6.heap.size 2 1 (.slice (some a) L.length ucap) L.length (i64s L) := own_only HSH.out.own ho8 (fun k hk hS => by have := (HSH.out.own.lt k hk).1; have : k < Q + 4 := hS; omega)
            have HTW8 := hide htw8
            have HO8 := hide hown8
            clear htw8 ho8 hown8
            cases bx with
            | true =>
              go_wp2
              go_ret2
              refine ⟨?_, HG.out.more HTW8.out.gc.below⟩
              have hz : Z = (false, 0) := by rw [HZ2.out, HDR.out]; unfold dueL; rw [if_pos HBX.out]
              rw [hz]; rfl
            | false =>
              go_wp2_with fail
              refine (ASK1.out w8 _ x HTW8.out (by omega) hx1 hx2 by_ HBY.out).mono ?_
              rintro e w9 ⟨rfl, htw9, ho9⟩
              have hown9 : w9.ownsRow w6.heap.size 2 1 (.slice (some a) L.length ucap) L.length (i64s L) := own_only HO8.out ho9 (fun k hk hS => by have := (HO8.out.lt k hk).1; have : k < Q + 4 := hS; omega)
              have HTW9 := hide htw9
              have HO9 := hide hown9
              clear htw9 ho9 hown9
              cases by_ with
              | true =>
                go_wp2
                go_ret2
                refine ⟨?_, HG.out.more HTW9.out.gc.below⟩
                have hz : Z = (true, 0) := by rw [HZ2.out, HDR.out]; unfold dueL; rw [if_neg (by rw [HBX.out]; decide), if_pos HBY.out]
                rw [hz]; rfl
              | false =>
                go_wp2
                go_roundw
                case rel =>
                  refine ⟨i + 1, by omega, by go_num, ?_, HO9.out, ?_⟩
                  · have he : 512 * (i + 1 + 1) = 512 * (i + 1) + 256 + 256 := by omega
                    rw [he]; exact HTW9.out
                  · rw [HDR.out]
                    have : ∀ l, dueL (inB cs 257 t) (inB cs 257 t') (x :: l) = dueL (inB cs 257 t) (inB cs 257 t') l := fun l => by rw [dueL, if_neg (by rw [HBX.out]; decide), if_neg (by rw [HBY.out]; decide)]
                    exact this _
                case measure => simp [intOf]; omega
          · have HE : Hid (dueL (inB cs 257 t) (inB cs 257 t') L = false) := by
              refine hide ?_
              rw [hsh.same, List.drop_eq_nil_of_le (by omega)]; rfl
            clear hsh
            go_wp2
            go_ret2
            refine ⟨?_, HG.out.more HSH.out.two.gc.below⟩
            have hz : Z = (false, 0) := by rw [HZ2.out, HE.out]
            rw [hz]; rfl
end Go.Proofs.YthbfjkdklnffjaaDoor
