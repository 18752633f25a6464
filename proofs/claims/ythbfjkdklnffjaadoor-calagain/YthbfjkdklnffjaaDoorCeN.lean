/- Package cal: Shift. -/
import Derived.Test.YthbfjkdklnffjaaDoorCeM
namespace Go.Proofs.YthbfjkdklnffjaaDoor
open Go.ChangeShapes Go.WideShapes Go.ChangeAt Go.RowKit Go.DsMem Go.DsMk
set_option linter.unusedVariables false

theorem mo_one {M N : Mo} {day : Int} (hM : M.ok) (hN : N.ok) (m1 : M.f ≤ day) (m2 : day < M.f + M.s) (n1 : N.f ≤ day) (n2 : day < N.f + N.s) : M = N := by
  obtain ⟨y, m, f, s⟩ := M
  obtain ⟨y', m', f', s'⟩ := N
  obtain ⟨v1, hf, hs⟩ := hM
  obtain ⟨v2, hf', hs'⟩ := hN
  simp only at m1 m2 n1 n2 v1 v2 hf hs hf' hs'
  have u1 : DsCal.vld y m (day - f + 1) := ⟨v1.1, v1.2.1, by omega, by omega⟩
  have u2 : DsCal.vld y' m' (day - f' + 1) := ⟨v2.1, v2.2.1, by omega, by omega⟩
  have e1 : DsCal.num y m (day - f + 1) = day := by unfold DsCal.num at hf ⊢; omega
  have e2 : DsCal.num y' m' (day - f' + 1) = day := by unfold DsCal.num at hf' ⊢; omega
  obtain ⟨rfl, rfl, _⟩ := DsCal.num_inj u1 u2 (by rw [e1, e2])
  subst hf hs hf' hs'
  rfl
/-- whether a day is one of a node's -/
def InP (cs : List (ByteArray × Nd)) (k : Nat) (t : Nd) (day : Int) : Prop := ∃ M : Mo, M.ok ∧ M.f ≤ day ∧ day < M.f + M.s ∧ hasB (daysF cs M k t) (day - M.f + 1) = true
open Classical in
noncomputable def inB (cs : List (ByteArray × Nd)) (k : Nat) (t : Nd) (day : Int) : Bool := decide (InP cs k t day)
open Classical in
theorem inB_eq {cs : List (ByteArray × Nd)} {k : Nat} {t : Nd} {day : Int} {M : Mo} (hM : M.ok) (m1 : M.f ≤ day) (m2 : day < M.f + M.s) : hasB (daysF cs M k t) (day - M.f + 1) = inB cs k t day := by
  cases hb : hasB (daysF cs M k t) (day - M.f + 1) with
  | true => exact (decide_eq_true (p := InP cs k t day) ⟨M, hM, m1, m2, hb⟩).symm
  | false =>
    refine (decide_eq_false (p := InP cs k t day) ?_).symm
    rintro ⟨N, hN, n1, n2, h⟩
    obtain rfl := mo_one hM hN m1 m2 n1 n2
    rw [hb] at h
    cases h
theorem Asked.is {cs : List (ByteArray × Nd)} {k : Nat} {t : Nd} {day : Int} {e : Ending} (h : Asked cs k t day e) : e = .returned (.bool (inB cs k t day)) := by
  obtain ⟨M, hM, m1, m2, rfl⟩ := h
  rw [inB_eq hM m1 m2]
def awayF (day dir : Int) : List Int := if dir = 0 then [] else awayL day dir 10
/-- cal.away -/
theorem Gc.awayAny {W w : World} (h : Gc W w) (day dir : Int) (h1 : 1 ≤ day) (h2 : day ≤ 3652059) (hd1 : -1 ≤ dir) (hd2 : dir ≤ 1) :
    Calls Tryd.prog 20 #[.int .i64 day, .int .i64 dir] w fun e w' => ∃ u, e = .returned u ∧ w'.ownsRow w.heap.size 2 1 u (awayF day dir).length (i64s (awayF day dir)) ∧ Gc w w' := by
  by_cases h0 : dir = 0
  · subst h0
    have HG := hide h
    clear h
    go_enter Tryd.func20, Tryd.ntmps20
    go_wp2
    go_ret
    exact ⟨_, rfl, World.ownsRow_nil _ _ _ _, HG.out.here⟩
  · have : awayF day dir = awayL day dir 10 := if_neg h0
    rw [this]
    exact h.away day dir h1 h2 (by omega)
theorem awayF_mem {day dir x : Int} (h : x ∈ awayF day dir) : 1 ≤ x ∧ x ≤ 3652059 := by
  unfold awayF at h
  split at h
  · simp at h
  · exact awayL_mem _ _ _ _ h
theorem awayF_len (day dir : Int) : (awayF day dir).length ≤ 10 := by
  unfold awayF
  split
  · simp
  · exact awayL_len _ _ _
/-- what Shift answers -/
noncomputable def shiftF (cs : List (ByteArray × Nd)) (t : Nd) (dir day : Int) : Int × Int :=
  if ¬ refF cs t day = 0 then (0, refF cs t day) else if ¬ (-1 ≤ dir ∧ dir ≤ 1) then (0, 1) else if inB cs 257 t day = true then (day, 0) else
    match (awayF day dir).find? (inB cs 257 t) with
    | some x => (x, 0)
    | none => (0, 30)
/-- what Shift's loop keeps -/
structure ShSt (cs : List (ByteArray × Nd)) (t : Nd) (v : NVal) (co : Option Addr) (cc B p0 base : Nat) (u : Value) (L : List Int) (w wr : World) (i : Nat) : Prop where
  ask : ∃ n, n ≤ 256 * (i + 1) ∧ AskSt cs 257 t v co cc B (p0 + 2) p0 (p0 + 1) (p0 + 3) wr n
  own : wr.ownsRow base 2 1 u L.length (i64s L)
  gc : Gc w wr
  none_ : (L.take i).find? (inB cs 257 t) = none
set_option maxHeartbeats 8000000 in
set_option maxRecDepth 20000 in
/-- cal.Shift -/
theorem Gc.shift {W w : World} (h : Gc W w) (co : Option Addr) (cc : Nat) (cs : List (ByteArray × Nd)) (g o : Nat) (V : Nat → NVal) (hc : CalsAt w co cc cs g o V) (t : Nd) (v : NVal) (hv : NdAt w v t) (dir day : Int) (hdir1 : -9223372036854775808 ≤ dir) (hdir2 : dir ≤ 9223372036854775807) :
    Calls Tryd.prog 18 #[.slice co cs.length cc, v.val, .int .i64 dir, .int .i64 day] w fun e w' => e = .returned (.tuple #[.int .i64 (shiftF cs t dir day).1, .int .i64 (shiftF cs t dir day).2]) ∧ Gc W w' := by
  have HG := hide h
  have HC := hide hc
  have HV := hide hv
  clear h hc hv
  obtain ⟨R, hR⟩ : ∃ R, refF cs t day = R := ⟨_, rfl⟩
  have HR := hide hR
  clear hR
  obtain ⟨Z, hZ⟩ : ∃ Z, shiftF cs t dir day = Z := ⟨_, rfl⟩
  rw [hZ]
  have HZ := hide hZ
  clear hZ
  obtain ⟨nv, hnv⟩ : ∃ nv, nv = v.val := ⟨_, rfl⟩
  have HNV := hide hnv
  unfold NVal.val ndV at hnv ⊢
  go_enter Tryd.func18, Tryd.ntmps18
  go_wp2_with fail
  obtain ⟨wA, hwA⟩ : ∃ wA, wA = w.alloc (.cells #[.int .i64 v.op, .slice v.no v.nl v.nc, .slice v.ko v.kl v.kc, .string v.nm] 31) := ⟨_, rfl⟩
  have HBA : Hid (Below w.heap.size w wA) := by refine hide ?_; rw [hwA]; exact (Below.refl _ _).alloc (Nat.le_refl _) _
  have HX : Hid (wA.heap[w.heap.size]? = some (.cells #[.int .i64 v.op, .slice v.no v.nl v.nc, .slice v.ko v.kl v.kc, .string v.nm] 31 (0, 0))) := by refine hide ?_; rw [hwA]; exact heap_alloc_new w _
  rw [← hwA]
  obtain ⟨p, hp⟩ : ∃ p, p = w.heap.size := ⟨_, rfl⟩
  rw [← hp]
  have HP := hide hp
  clear hwA hp hnv
  refine ((HG.out.here.more HBA.out).here.refuse co cc cs g o V (HC.out.grew HBA.out) t v (HV.out.grew HBA.out) day).mono ?_
  rw [HR.out]
  rintro e wR ⟨rfl, hgR⟩
  have HGR := hide hgR
  have hX : wR.heap[p]? = some (.cells #[.int .i64 v.op, .slice v.no v.nl v.nc, .slice v.ko v.kl v.kc, .string v.nm] 31 (0, 0)) := by
    have hx := HX.out
    rw [← HP.out] at hx
    rw [hgR.below.block p (block_lt hx)]; exact hx
  have HXR := hide hX
  clear hX hgR
  rcases Decidable.em (R = 0) with h0 | h0
  · subst h0
    go_wp2_with fail
    obtain ⟨bd, hbd⟩ : ∃ b, decide (-1 ≤ dir ∧ dir ≤ 1) = b := ⟨_, rfl⟩
    refine (isDir_any dir wR).mono ?_
    rw [hbd]
    have HBD := hide hbd
    clear hbd
    rintro e w1 ⟨rfl, hww⟩
    have hw' := hww.symm
    subst hw'
    clear hww
    cases bd with
    | false =>
      go_wp2
      go_ret2
      refine ⟨?_, HG.out.more (HBA.out.trans (HGR.out.below.mono HBA.out.size))⟩
      have hz : Z = (0, 1) := by rw [← HZ.out]; unfold shiftF; rw [if_neg (by rw [HR.out]; decide), if_pos (of_decide_eq_false HBD.out)]
      rw [hz]; rfl
    | true =>
      have hdd := of_decide_eq_true HBD.out
      obtain ⟨hdd1, hdd2⟩ := hdd
      have HOKS := hide (refF_ok HR.out)
      have KP : Hid (∀ w', Below wR.heap.size wR.drew w' → w'.cell? ⟨p, 0, none⟩ = some (.int .i64 v.op) ∧ w'.cell? ⟨p, 1, none⟩ = some (.slice v.no v.nl v.nc) ∧ w'.cell? ⟨p, 2, none⟩ = some (.slice v.ko v.kl v.kc) ∧ w'.cell? ⟨p, 3, none⟩ = some (.string v.nm)) := fun w' hb =>
        ⟨Below.keeps hb (Nat.le_refl _) (a := ⟨p, 0, none⟩) (by show wR.cell? _ = _; rw [cell_of HXR.out]; rfl), Below.keeps hb (Nat.le_refl _) (a := ⟨p, 1, none⟩) (by show wR.cell? _ = _; rw [cell_of HXR.out]; rfl), Below.keeps hb (Nat.le_refl _) (a := ⟨p, 2, none⟩) (by show wR.cell? _ = _; rw [cell_of HXR.out]; rfl), Below.keeps hb (Nat.le_refl _) (a := ⟨p, 3, none⟩) (by show wR.cell? _ = _; rw [cell_of HXR.out]; rfl)⟩
      obtain ⟨k0, k1, k2, k3⟩ := KP.out wR.drew (Below.refl _ _)
      go_wp2_with fail
      first
        | (go_region_held3 (fun w' => w'.cell? ⟨p, 0, none⟩ = some (.int .i64 v.op) ∧ w'.cell? ⟨p, 1, none⟩ = some (.slice v.no v.nl v.nc) ∧ w'.cell? ⟨p, 2, none⟩ = some (.slice v.ko v.kl v.kc) ∧ w'.cell? ⟨p, 3, none⟩ = some (.string v.nm))
            (first | go_keep | (exact KP.out _ (by assumption)))
            (first
              | (go_at_call 15; refine (Gc.newAsker (W := wR.drew) HGR.out.here.drew.here co cc cs).mono ?_; rintro e w2 ⟨B, rfl, ⟨hB, hm2⟩, hg2⟩; have hb2 : Below wR.heap.size wR.drew w2 := hg2.below)
              | (go_at_call 16; refine (Gc.asking (W := w2) hg2.here.here co cc cs B 0 hm2 257 t v).mono ?_; rintro e w3 ⟨rfl, hst, hg3⟩; have hb3 : Below wR.heap.size wR.drew w3 := hb2.trans (hg3.below.mono hb2.size))))
        | fail
      have HM2 := hide hm2
      have HB3 := hide hb3
      have HST := hide hst
      have HG3 := hide hg3
      have HBB := hide hB
      have HB2 := hide hb2
      clear hm2 hb3 hst hg3 hB hb2 hg2 k0 k1 k2 k3
      go_wp2_with fail
      have hWR : Below w.heap.size w wR := HBA.out.trans (HGR.out.below.mono HBA.out.size)
      have hs1 := hWR.size
      have hs2 : wR.heap.size ≤ w2.heap.size := HB2.out.size
      have hs3 : wR.heap.size ≤ B := HBB.out
      have hs4 := HM2.out.lt
      have hW3 : Below w.heap.size w w3 := hWR.trans ((Below.refl _ _).drew.trans (HB3.out.mono hs1))
      have ASK : Hid (∀ (wx : World) (n : Nat) (x : Int), Gc w wx → AskSt cs 257 t v co cc B (w2.heap.size + 2) w2.heap.size (w2.heap.size + 1) (w2.heap.size + 3) wx n → n ≤ 5000 → 1 ≤ x → x ≤ 3652059 → ∀ b, inB cs 257 t x = b →
          Calls Tryd.prog 25 #[.int .i64 x, .pointer (some ⟨w2.heap.size + 2, 0, none⟩), .pointer (some ⟨w2.heap.size, 0, none⟩), .pointer (some ⟨w2.heap.size + 1, 0, none⟩), .pointer (some ⟨w2.heap.size + 3, 0, none⟩)] wx fun e w' => e = .returned (.bool b) ∧ ((∃ n', n' ≤ n + 256 ∧ AskSt cs 257 t v co cc B (w2.heap.size + 2) w2.heap.size (w2.heap.size + 1) (w2.heap.size + 3) w' n') ∧ Only (fun i => i < w2.heap.size + 4) wx w' ∧ Gc w w')) := fun wx n x hg hst hn x1 x2 b hb => by
        have hcost := HOKS.out.2.2.2.2
        refine (askFn cs 257 t v co cc B (w2.heap.size + 2) w2.heap.size (w2.heap.size + 1) (w2.heap.size + 3) n x w wx g o V hg ⟨by omega, by omega, by omega, by omega, by omega, by omega, by omega, by omega, by omega, by omega, by omega, by omega⟩ HV.out HC.out HOKS.out.1 HOKS.out.2.2.2.1 (by omega) x1 x2 hst).mono ?_
        rintro e w' ⟨ha, ⟨n', hn', hst'⟩, ho⟩
        exact ⟨by rw [ha.is, hb], ⟨n', by omega, hst'⟩, ho.mono (fun i _ hi => by show i < w2.heap.size + 4; rcases hi with rfl | rfl | rfl <;> omega), Only.gcS hg ho (fun i hi => by rcases hi with rfl | rfl | rfl <;> omega)⟩
      obtain ⟨b0, hb0⟩ : ∃ b, inB cs 257 t day = b := ⟨_, rfl⟩
      refine (ASK.out w3 0 day (HG.out.here.more hW3) HST.out (by omega) HOKS.out.2.1 HOKS.out.2.2.1 b0 hb0).mono ?_
      rintro e w4 ⟨rfl, ⟨n4, hn4, hst4⟩, ho4, hg4⟩
      have HB0 := hide hb0
      have HST4 := hide hst4
      have HG4 := hide hg4
      have hsz4 : w2.heap.size + 4 ≤ w4.heap.size := by have := block_lt HST.out.at_.choose_spec.choose_spec.choose_spec.choose_spec.choose_spec.2.1; have := ho4.size; omega
      have HN4 := hide hn4
      clear hb0 hst4 hg4 ho4 hW3 hWR hn4
      cases b0 with
      | true =>
        go_wp2
        go_ret2
        refine ⟨?_, HG.out.more HG4.out.below⟩
        have hz : Z = (day, 0) := by rw [← HZ.out]; unfold shiftF; rw [if_neg (by rw [HR.out]; decide), if_neg (by omega), if_pos HB0.out]
        rw [hz]; rfl
      | false =>
        go_wp2_with fail
        have hlen := awayF_len day dir
        have HMEM : Hid (∀ x ∈ awayF day dir, 1 ≤ x ∧ x ≤ 3652059) := fun x hx => awayF_mem hx
        have HZ2 : Hid (Z = match (awayF day dir).find? (inB cs 257 t) with | some x => (x, 0) | none => (0, 30)) := by
          refine hide ?_
          rw [← HZ.out]; unfold shiftF; rw [if_neg (by rw [HR.out]; decide), if_neg (by omega), if_neg (by rw [HB0.out]; decide)]
        refine (HG4.out.here.awayAny day dir HOKS.out.2.1 HOKS.out.2.2.1 hdd1 hdd2).mono ?_
        generalize awayF day dir = L at *
        rintro e w5 ⟨u, rfl, hown5, hg5⟩
        have HS5 : Hid (ShSt cs t v co cc B w2.heap.size w4.heap.size u L w w5 0) := ⟨⟨n4, by have := HN4.out; omega, HST4.out.below hg5.below⟩, hown5, HG4.out.more hg5.below, rfl⟩
        obtain ⟨uo, ucap, rfl, hucap⟩ := own_shape hown5
        clear hown5 hg5
        go_wp2
        go_loopw [36] (fun tt wr => ∃ i : Nat, i ≤ L.length ∧ tt = .int .i64 i ∧ ShSt cs t v co cc B w2.heap.size w4.heap.size (.slice uo L.length ucap) L w wr i) (fun tt _ => L.length - (intOf tt).toNat)
        case atStart => exact ⟨0, Nat.zero_le _, rfl, HS5.out⟩
        case round =>
          obtain ⟨i, hi', rfl, hsh⟩ := hrel
          have HSH := hide hsh
          by_cases hlt : i < L.length
          · obtain ⟨ao', cap', hv, -, hnil, hrd⟩ := RdI.own hsh.own
            simp only [Value.slice.injEq] at hv
            obtain ⟨rfl, -, rfl⟩ := hv
            obtain ⟨a, rfl⟩ : ∃ a, uo = some a := by
              cases uo with
              | none => have := (hnil rfl).1; omega
              | some a => exact ⟨a, rfl⟩
            have hcl := hrd a rfl i L[i] (List.getElem?_eq_getElem hlt)
            obtain ⟨hx1, hx2⟩ := HMEM.out L[i] (List.getElem_mem hlt)
            have HTK : Hid (L.take (i + 1) = L.take i ++ [L[i]]) := List.take_succ_eq_append_getElem hlt
            have HDR : Hid (L = L.take i ++ L[i] :: L.drop (i + 1)) := by
              refine hide ?_
              rw [← List.drop_eq_getElem_cons hlt, List.take_append_drop]
            generalize L[i] = x at *
            clear hrd hsh
            obtain ⟨bx, hbx⟩ : ∃ b, inB cs 257 t x = b := ⟨_, rfl⟩
            have HBX := hide hbx
            clear hbx
            go_wp2_with fail
            obtain ⟨nr, hnr, hstr⟩ := HSH.out.ask
            refine (ASK.out wr nr x HSH.out.gc hstr (by omega) hx1 hx2 bx HBX.out).mono ?_
            rintro e w6 ⟨rfl, ⟨n6, hn6, hst6⟩, ho6, hg6⟩
            have hown6 : w6.ownsRow w4.heap.size 2 1 (.slice (some a) L.length ucap) L.length (i64s L) := own_only HSH.out.own ho6 (fun k hk hS => by have := (HSH.out.own.lt k hk).1; have : k < w2.heap.size + 4 := hS; omega)
            have HST6 := hide hst6
            have HG6 := hide hg6
            have HO6 := hide hown6
            have HN6 : Hid (n6 ≤ 256 * (i + 1 + 1)) := by refine hide ?_; omega
            clear hst6 hg6 hown6 ho6 hn6 hnr hstr
            cases bx with
            | true =>
              go_wp2
              go_ret2
              refine ⟨?_, HG.out.more HG6.out.below⟩
              have hf : L.find? (inB cs 257 t) = some x := by rw [HDR.out, List.find?_append, HSH.out.none_]; simp [HBX.out]
              have hz : Z = (x, 0) := by rw [HZ2.out, hf]
              rw [hz]; rfl
            | false =>
              go_wp2
              go_roundw
              case rel =>
                refine ⟨i + 1, by omega, by go_num, ⟨n6, HN6.out, HST6.out⟩, HO6.out, HG6.out, ?_⟩
                rw [HTK.out, List.find?_append, HSH.out.none_]; simp [HBX.out]
              case measure => simp [intOf]; omega
          · have HE : Hid (L.find? (inB cs 257 t) = none) := by
              refine hide ?_
              have := hsh.none_
              rwa [List.take_of_length_le (by omega)] at this
            clear hsh
            go_wp2
            go_ret2
            refine ⟨?_, HG.out.more HSH.out.gc.below⟩
            have hz : Z = (0, 30) := by rw [HZ2.out, HE.out]
            rw [hz]; rfl
  · go_wp2
    go_ret2
    refine ⟨?_, HG.out.more (HBA.out.trans (HGR.out.below.mono HBA.out.size))⟩
    have hz : Z = (0, R) := by rw [← HZ.out]; unfold shiftF; rw [if_pos (by rw [HR.out]; exact h0), HR.out]
    rw [hz]; rfl
end Go.Proofs.YthbfjkdklnffjaaDoor
