/- Package pool: needs that can be. -/
import Derived.Test.YtkpambipgcjaiaaPlF
import Derived.Handy
namespace Go.Proofs.Ytkpambipgcjaiaa
open Go.ChangeShapes Go.WideShapes Go.ChangeAt Go.RowKit Go.DsMem Go.DsCo Go.DsPl Go.DsMap
set_option linter.unusedVariables false
set_option linter.unusedSimpArgs false
/-- a slice that reads as needs -/
def NeRd (w : World) (uo : Option Addr) (l : List Ne) : Prop :=
  0 < l.length → ∃ g, uo = some ⟨g, 0, none⟩ ∧ g < w.heap.size ∧ ∀ j n, l[j]? = some n → w.cell? ⟨g, j * 3, none⟩ = some (.string n.nm) ∧ w.cell? ⟨g, j * 3 + 1, none⟩ = some (.int .i64 n.n) ∧ w.cell? ⟨g, j * 3 + 2, none⟩ = some (.int .i64 n.md)
theorem NeRd.below {w w' : World} {uo : Option Addr} {l : List Ne} (h : NeRd w uo l) (hb : Below w.heap.size w w') : NeRd w' uo l := fun h0 => by
  obtain ⟨g, e, hg, hc⟩ := h h0
  refine ⟨g, e, Nat.lt_of_lt_of_le hg hb.size, fun j n hj => ?_⟩
  obtain ⟨a, b, c⟩ := hc j n hj
  exact ⟨Below.keeps hb (Nat.le_refl _) a, Below.keeps hb (Nat.le_refl _) b, Below.keeps hb (Nat.le_refl _) c⟩
theorem NeRd.drew {w : World} {uo : Option Addr} {l : List Ne} (h : NeRd w uo l) : NeRd w.drew uo l := h
def FitL (l : List Ne) : Prop := ∀ n ∈ l, FitN n.nm
abbrev unitL (A : List ByteArray) : List (ByteArray × Unit) := A.map fun s => (s, ())
theorem unitL_in {A : List ByteArray} {s : ByteArray} {x : Unit} : (s, x) ∈ unitL A ↔ s ∈ A := by simp [unitL]
theorem lookA {w : World} {B : Nat} {A : List ByteArray} (h : MpS w B (unitL A)) (s : ByteArray) (hs : FitN s) : (Instr.lookup 132 (.map (some B)) (.string s) true).run Try.prog w = .ok (.tuple #[.agg #[], .bool (A.any fun a => decide (a = s))]) w := by
  by_cases hin : s ∈ A
  · have e : (A.any fun a => decide (a = s)) = true := List.any_eq_true.2 ⟨s, hin, by simp⟩
    rw [e]
    exact h.look mkA (zeroE w) (x := ()) (unitL_in.2 hin) true
  · have e : (A.any fun a => decide (a = s)) = false := by
      cases hb : A.any fun a => decide (a = s) with
      | false => rfl
      | true => obtain ⟨x, hx, e⟩ := List.any_eq_true.1 hb; simp at e; exact absurd (e ▸ hx) hin
    rw [e]
    exact h.look_not mkA (zeroE w) hs (fun x hx => hin (unitL_in.1 hx)) true
theorem putA {w : World} {B : Nat} {A : List ByteArray} (h : MpS w B (unitL A)) (s : ByteArray) (hs : FitN s) (hn : s ∉ A) (hl : A.length ≤ 1000000) :
    ∃ w', (Instr.mapUpdate 132 (.map (some B)) (.string s) (.agg #[])).run Try.prog w = .ok () w' ∧ MpS w' B (unitL (s :: A)) ∧ Only (· = B) w w' := by
  obtain ⟨w', hr, hm, ho⟩ := h.put mkA hs (fun x hx => hn (unitL_in.1 hx)) () (by simpa using hl)
  refine ⟨w', hr, hm.perm ?_, ho⟩
  show ((s, ()) :: unitL A).Perm _
  exact (List.perm_append_singleton _ _).symm
theorem nodup_sub {A : List ByteArray} {R : List Rk} (h1 : A.Nodup) (h2 : ∀ a ∈ A, ∃ k, (a, k) ∈ R) : A.length ≤ R.length := by
  have := nodup_len A (R.map (·.1)) h1 (fun x hx => by obtain ⟨k, hk⟩ := h2 x hx; exact List.mem_map.2 ⟨_, hk, rfl⟩)
  simpa using this
theorem drop_cons {α : Type} {l : List α} {k : Nat} (h : k < l.length) : l.drop k = l[k] :: l.drop (k + 1) := List.drop_eq_getElem_cons h
/-- a kind's value behind its interface; its methods -/
def kdI : Kd → Value
  | .units n => .agg #[.int .i64 n]
  | .lock => .agg #[]
def sufF : Kd → Nat
  | .units _ => 141
  | .lock => 144
def fitF : Kd → Nat
  | .units _ => 139
  | .lock => 142
def shaF : Kd → Nat
  | .units _ => 140
  | .lock => 143
theorem suits_any (k : Kd) (n : Ne) (w : World) : Calls Try.prog (sufF k) #[kdI k, neV n] w fun e w' => e = .returned (.bool (suitsB k n)) ∧ Below w.heap.size w w' := by
  cases k with
  | units m => exact qsuits_any m n w
  | lock => exact lsuits_any n w
theorem share_any (k : Kd) (n : Ne) (w : World) : Calls Try.prog (shaF k) #[kdI k, neV n] w fun e w' => e = .returned (shV (shareF k n)) ∧ Below w.heap.size w w' := by
  cases k with
  | units m => exact qshare_any m n w
  | lock => exact lshare_any n w
theorem fits_any (k : Kd) (n : Ne) (u : Us) (w : World) (hk : ∀ m, k = .units m → 0 ≤ m ∧ m ≤ 1000) (hu : 0 ≤ u.1 ∧ u.1 ≤ 1000000000000) : Calls Try.prog (fitF k) #[kdI k, neV n, usV u] w fun e w' => e = .returned (.bool (fitsB k n u)) ∧ Below w.heap.size w w' := by
  cases k with
  | units m => exact qfits_any m n u w (hk m rfl) hu
  | lock => exact lfits_any n u w
set_option maxHeartbeats 8000000 in
set_option maxRecDepth 20000 in
/-- (*pool.Pool).right -/
theorem right_any (l : List Ne) (uo : Option Addr) (uc : Nat) (p a b : Nat) (R : List Rk) (H : List Hd) (w : World) (h : PoAt w p a b R H) (hr : NeRd w uo l) (hf : FitL l) (hlen : l.length ≤ 140737488355328) (hR : R.length ≤ 1000000) : Calls Try.prog 65 #[ptr p, .slice uo l.length uc] w fun e w' => e = .returned (.int .i64 (rightF R [] l)) ∧ Below w.heap.size w w' := by
  have hmm := @run_makeMap Try.prog
  have HP := hide h
  have HR := hide hr
  have HF := hide hf
  have HKN := hide h.fine.kn
  have HS0 : Hid (MpS (w.alloc (.map #[] 0)) w.heap.size (unitL [])) := hide (Mp.made w)
  have HBL0 : Hid (Below w.heap.size w (w.alloc (.map #[] 0))) := hide (bel1 _ _)
  obtain ⟨B, hB⟩ : ∃ B, B = w.heap.size := ⟨_, rfl⟩
  rw [← hB] at HS0
  have HBE := hide hB
  obtain ⟨Q, hQ⟩ : ∃ Q, rightF R [] l = Q := ⟨_, rfl⟩
  rw [hQ]
  have HQ := hide hQ
  clear h hr hf hQ
  unfold ptr
  go_enter Try.func65, Try.ntmps65
  go_wp2
  rw [← hB]
  clear hB
  go_loopw [15] (fun i wr => ∃ (k : Nat) (A : List ByteArray), k ≤ l.length ∧ i = .int .i64 k ∧ MpS wr B (unitL A) ∧ rightF R A (l.drop k) = Q ∧ A.Nodup ∧ (∀ x ∈ A, ∃ y, (x, y) ∈ R) ∧ Below w.heap.size w wr) (fun i _ => l.length - (intOf i).toNat)
  case atStart => exact ⟨0, [], Nat.zero_le _, rfl, HS0.out, HQ.out, List.nodup_nil, fun x hx => by simp at hx, HBL0.out⟩
  case round =>
    obtain ⟨k, A, hk, rfl, hms, hq, hnd, hsub, hbl⟩ := hrel
    have HMS := hide hms
    have HND := hide hnd
    have HSUB := hide hsub
    have HBL := hide hbl
    clear hms hnd hsub hbl HS0 HBL0 HQ
    by_cases hlt : k < l.length
    · have HLT := hide hlt
      rw [drop_cons hlt] at hq
      have hfn : FitN (l[k]).nm := HF.out _ (List.getElem_mem hlt)
      obtain ⟨g, hgo, hg, hcells⟩ := HR.out.below HBL.out (by omega)
      obtain ⟨e0, e1, e2⟩ := hcells k l[k] (List.getElem?_eq_getElem hlt)
      subst hgo
      clear hcells
      generalize l[k] = n at *
      obtain ⟨nm, m, md⟩ := n
      simp only at e0 e1 e2 hfn hq
      obtain ⟨w1, hw1⟩ : ∃ w1, w1 = wr.alloc (.cells #[.string nm, .int .i64 m, .int .i64 md] 61) := ⟨_, rfl⟩
      have hb1 : Below wr.heap.size wr w1 := by rw [hw1]; exact bel1 _ _
      have k0 : w1.cell? ⟨wr.heap.size, 0, none⟩ = some (.string nm) := by rw [hw1]; simp [go_sem]
      have k1 : w1.cell? ⟨wr.heap.size, 1, none⟩ = some (.int .i64 m) := by rw [hw1]; simp [go_sem]
      have k2 : w1.cell? ⟨wr.heap.size, 2, none⟩ = some (.int .i64 md) := by rw [hw1]; simp [go_sem]
      have hz1 : w1.heap.size = wr.heap.size + 1 := by rw [hw1]; simp
      have hP1 := (HP.out.below (HBL.out.trans (hb1.mono HBL.out.size))).drew
      have c0 := hP1.c0
      have LK := lookK hP1.mks nm hfn true
      simp only [if_true] at LK
      have HB1 := hide (HBL.out.trans (hb1.mono HBL.out.size))
      have HM1 := hide (HMS.out.below hb1)
      clear hP1 hb1
      rw [rightF] at hq
      simp only at hq
      cases hk2 : findK R nm with
      | none =>
        rw [hk2] at LK hq
        simp only [Option.map_none, Option.getD_none, Option.isSome_none] at LK hq
        go_wp2_with fail
        rw [← hw1]
        clear hw1
        go_region
        all_goals
          go_wp2
          go_ret
          exact ⟨retI hq, HB1.out.drew⟩
      | some kd =>
        rw [hk2] at LK hq
        simp only [Option.map_some, Option.getD_some, Option.isSome_some] at LK hq
        have HSU := hide (fun w => suits_any kd ⟨nm, m, md⟩ w)
        unfold neV at HSU
        simp only at HSU
        have HKD := hide (findK_in hk2)
        obtain ⟨sb, hsb⟩ : ∃ sb, suitsB kd ⟨nm, m, md⟩ = sb := ⟨_, rfl⟩
        rw [hsb] at HSU hq
        clear hsb hk2
        rcases kd with m0 | _
        all_goals
          simp only [sufF, kdI, kdV] at HSU LK
          go_wp2_with fail
          rw [← hw1]
          clear hw1
          go_region
          all_goals
            go_wp2_with fail
            refine (HSU.out _).mono ?_
            rintro e w2 ⟨rfl, hb2⟩
            have d0 := Below.keeps hb2 (Nat.le_refl _) (show w1.drew.cell? ⟨wr.heap.size, 0, none⟩ = some (.string nm) from k0)
            have hz2 : w1.heap.size ≤ w2.heap.size := hb2.size
            have hne : ¬ wr.heap.size = w2.heap.size := by omega
            have HB2 := hide ((HB1.out.drew).trans (hb2.mono HB1.out.size))
            have HM2 := hide ((show MpS w1.drew B (unitL A) from HM1.out.drew).below hb2)
            clear hb2 k0 k1 k2
            cases sb with
            | false =>
              rw [if_pos rfl] at hq
              go_wp2
              go_ret
              exact ⟨retI hq, HB2.out⟩
            | true =>
              rw [if_neg (by decide)] at hq
              have LA := lookA HM2.out nm hfn
              cases hany : A.any fun a => decide (a = nm) with
              | true =>
                rw [hany] at LA hq
                rw [if_pos rfl] at hq
                go_wp2
                go_ret
                exact ⟨retI hq, HB2.out.alloc HB2.out.size _⟩
              | false =>
                rw [hany] at LA hq
                rw [if_neg (by decide)] at hq
                have hna : nm ∉ A := fun e => by
                  have : (A.any fun a => decide (a = nm)) = true := List.any_eq_true.2 ⟨nm, e, by simp⟩
                  rw [hany] at this; cases this
                have hal := nodup_sub HND.out HSUB.out
                obtain ⟨w4, hrun, hm4, ho4⟩ := putA (HM2.out.below (bel1 w2 (.cells #[] 122))) nm hfn hna (by omega)
                have d1 : (w2.alloc (.cells #[] 122)).cell? ⟨wr.heap.size, 0, none⟩ = some (.string nm) := Below.keeps (bel1 _ _) (Nat.le_refl _) d0
                have HM4 := hide hm4
                have HB4 : Hid (Below w.heap.size w w4) := hide ((HB2.out.alloc HB2.out.size _).trans (ho4.toBelow (by have := HB2.out.size; simp; omega) (fun i e => by rw [e, HBE.out]; exact Nat.le_refl _)))
                have HQ := hide hq
                have HNA := hide hna
                clear hm4 ho4 hq hna hany
                go_wp2
                go_roundw
                case rel => exact ⟨k + 1, nm :: A, by have := HLT.out; omega, by go_num, HM4.out, HQ.out, List.nodup_cons.2 ⟨HNA.out, HND.out⟩, fun x hx => by
                  rcases List.mem_cons.1 hx with rfl | hx
                  · exact ⟨_, HKD.out⟩
                  · exact HSUB.out x hx, HB4.out⟩
                case measure => have := HLT.out; simp [intOf]; omega
    · have hkl : k = l.length := by omega
      subst hkl
      rw [List.drop_length, rightF] at hq
      go_wp2
      go_ret
      exact ⟨retI hq, HBL.out⟩
end Go.Proofs.Ytkpambipgcjaiaa
