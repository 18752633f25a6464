/- Package pool: New. -/
import Derived.Test.YtkpambipgcjaiaaPlO
namespace Go.Proofs.Ytkpambipgcjaiaa
open Go.ChangeShapes Go.WideShapes Go.ChangeAt Go.RowKit Go.DsMem Go.DsCo Go.DsPl Go.DsMap
set_option linter.unusedVariables false
set_option linter.unusedSimpArgs false
/-- a resource as it is told: its name, units, whether it is a lock -/
abbrev Rt := ByteArray × (Int × Bool)
/-- a slice that reads as resources -/
def RtRd (w : World) (uo : Option Addr) (l : List Rt) : Prop :=
  0 < l.length → ∃ g, uo = some ⟨g, 0, none⟩ ∧ g < w.heap.size ∧ ∀ j n, l[j]? = some n → w.cell? ⟨g, j * 3, none⟩ = some (.string n.1) ∧ w.cell? ⟨g, j * 3 + 1, none⟩ = some (.int .i64 n.2.1) ∧ w.cell? ⟨g, j * 3 + 2, none⟩ = some (.bool n.2.2)
theorem RtRd.below {w w' : World} {uo : Option Addr} {l : List Rt} (h : RtRd w uo l) (hb : Below w.heap.size w w') : RtRd w' uo l := fun h0 => by
  obtain ⟨g, e, hg, hc⟩ := h h0
  refine ⟨g, e, Nat.lt_of_lt_of_le hg hb.size, fun j n hj => ?_⟩
  obtain ⟨a, b, c⟩ := hc j n hj
  exact ⟨Below.keeps hb (Nat.le_refl _) a, Below.keeps hb (Nat.le_refl _) b, Below.keeps hb (Nat.le_refl _) c⟩
def FitR (l : List Rt) : Prop := ∀ n ∈ l, FitN n.1
def addR (R : List Rk) (r : Rt) : List Rk := if (findK R r.1).isSome then R else R ++ [(r.1, kindF r.2.1 r.2.2)]
def newF (l : List Rt) : List Rk := l.foldl addR []
theorem addR_fine {R : List Rk} (h : FineP R []) (r : Rt) (hr : FitN r.1) : FineP (addR R r) [] := by
  unfold addR
  split
  · exact h
  · next hn =>
    have hn : findK R r.1 = none := by cases hk : findK R r.1 with
      | none => rfl
      | some k => rw [hk] at hn; simp at hn
    refine ⟨?_, fun nm n hm => ?_, fun p hp => ?_, List.Pairwise.nil, fun x hx => by simp at hx, fun x hx => by simp at hx⟩
    · rw [List.map_append, List.nodup_append]
      refine ⟨h.kn, by simp, fun a ha b hb => ?_⟩
      simp only [List.map_cons, List.map_nil, List.mem_singleton] at hb
      subst hb
      obtain ⟨p, hp, rfl⟩ := List.mem_map.1 ha
      intro e
      exact findK_none hn p.2 (by rw [← e]; exact hp)
    · rcases List.mem_append.1 hm with hm | hm
      · exact h.ru nm n hm
      · simp at hm
        obtain ⟨_, hm⟩ := hm
        unfold kindF at hm
        split at hm
        · cases hm
        · simp at hm; omega
    · rcases List.mem_append.1 hp with hp | hp
      · exact h.rs p hp
      · simp at hp; subst hp; exact hr
theorem newF_fine : ∀ (l : List Rt) (R : List Rk), FineP R [] → FitR l → FineP (l.foldl addR R) [] ∧ (l.foldl addR R).length ≤ R.length + l.length
  | [], R, h, _ => ⟨h, by simp⟩
  | r :: l, R, h, hl => by
    obtain ⟨a, b⟩ := newF_fine l (addR R r) (addR_fine h r (hl r (by simp))) (fun n hn => hl n (List.mem_cons_of_mem _ hn))
    refine ⟨a, ?_⟩
    have : (addR R r).length ≤ R.length + 1 := by unfold addR; split <;> simp
    simp only [List.foldl_cons, List.length_cons]
    omega
theorem fine0 : FineP [] [] := ⟨List.nodup_nil, fun _ _ h => by simp at h, fun _ h => by simp at h, List.Pairwise.nil, fun _ h => by simp at h, fun _ h => by simp at h⟩
set_option maxHeartbeats 8000000 in
set_option maxRecDepth 20000 in
/-- pool.New -/
theorem new_any (l : List Rt) (uo : Option Addr) (uc : Nat) (w : World) (hr : RtRd w uo l) (hf : FitR l) (hlen : l.length ≤ 1000000) : Calls Try.prog 15 #[.slice uo l.length uc] w fun e w' => e = .returned (ptr (w.heap.size + 2)) ∧ PoAt w' (w.heap.size + 2) w.heap.size (w.heap.size + 1) (newF l) [] ∧ Below w.heap.size w w' := by
  have hmm := @run_makeMap Try.prog
  have HR := hide hr
  have HF := hide hf
  obtain ⟨w0, hw0⟩ : ∃ w0, ((w.alloc (.map #[] 0)).alloc (.map #[] 0)).alloc (.cells #[.map (some w.heap.size), .map (some (w.heap.size + 1))] 76) = w0 := ⟨_, rfl⟩
  have hb0 : Below w.heap.size w w0 := by rw [← hw0]; exact bel3 _ _ _ _
  have hz0 : w0.heap.size = w.heap.size + 3 := by rw [← hw0]; simp
  have hP0 : PoAt w0 (w.heap.size + 2) w.heap.size (w.heap.size + 1) [] [] := by
    have hA : MpK (w.alloc (.map #[] 0)) w.heap.size [] := Mp.made w
    have hB : MpH ((w.alloc (.map #[] 0)).alloc (.map #[] 0)) (w.heap.size + 1) [] := by have := Mp.made (P := Try.prog) (k := 85) (kv := hkV) (ev := shV) (fit := FitH) (w.alloc (.map #[] 0)); simpa using this
    refine ⟨?_, ?_, ?_, by omega, fine0⟩
    · rw [← hw0]
      have := heap_alloc_new ((w.alloc (.map #[] 0)).alloc (.map #[] 0)) (.cells #[.map (some w.heap.size), .map (some (w.heap.size + 1))] 76)
      simpa using this
    · rw [← hw0]; exact (hA.below (bel1 _ _)).below (bel1 _ _)
    · rw [← hw0]; exact hB.below (bel1 _ _)
  have HB0 := hide hb0
  have HP0 := hide hP0
  obtain ⟨Q, hQ⟩ : ∃ Q, newF l = Q := ⟨_, rfl⟩
  rw [hQ]
  have HQ := hide hQ
  clear hr hf hQ hb0 hP0 hz0
  unfold ptr
  go_enter Try.func15, Try.ntmps15
  go_wp2
  first
  | rw [hw0]
  | skip
  clear hw0
  obtain ⟨p, hp⟩ : ∃ p, p = w.heap.size + 1 + 1 := ⟨_, rfl⟩
  obtain ⟨b, hb⟩ : ∃ b, b = w.heap.size + 1 := ⟨_, rfl⟩
  obtain ⟨a, ha⟩ : ∃ a, a = w.heap.size := ⟨_, rfl⟩
  have HE : Hid (p = w.heap.size + 2 ∧ b = w.heap.size + 1 ∧ a = w.heap.size) := hide ⟨hp, hb, ha⟩
  have HPP : Hid (PoAt w0 p a b [] []) := hide (by rw [hp, hb, ha]; exact HP0.out)
  rw [← hp, ← hb, ← ha]
  clear hp hb ha HP0
  go_loopw [14] (fun i wr => ∃ (k : Nat) (R : List Rk), k ≤ l.length ∧ i = .int .i64 k ∧ PoAt wr p a b R [] ∧ (l.drop k).foldl addR R = Q ∧ R.length ≤ k ∧ Below w.heap.size w wr) (fun i _ => l.length - (intOf i).toNat)
  case atStart => exact ⟨0, [], Nat.zero_le _, rfl, HPP.out, HQ.out, Nat.zero_le _, HB0.out⟩
  case round =>
    obtain ⟨k, R, hk, rfl, hpo, hq, hRk, hbl⟩ := hrel
    have HPO := hide hpo
    have HBL := hide hbl
    have hsw := hbl.size
    have hlw := hpo.lt
    have hpa := hpo.pa
    have hpb := hpo.pb
    have hab := hpo.ab
    clear hpo hbl HPP HB0 HQ
    by_cases hlt : k < l.length
    · have HLT := hide hlt
      rw [drop_cons hlt, List.foldl_cons] at hq
      have hfn : FitN (l[k]).1 := HF.out _ (List.getElem_mem hlt)
      obtain ⟨g, hgo, hg, hcells⟩ := HR.out.below HBL.out (by omega)
      obtain ⟨e0, e1, e2⟩ := hcells k l[k] (List.getElem?_eq_getElem hlt)
      subst hgo
      clear hcells
      have HFA := hide (addR_fine HPO.out.fine l[k] hfn)
      generalize l[k] = n at *
      obtain ⟨nm, u, lk⟩ := n
      simp only at e0 e1 e2 hfn
      obtain ⟨w1, hw1⟩ : ∃ w1, wr.alloc (.cells #[.string nm, .int .i64 u, .bool lk] 72) = w1 := ⟨_, rfl⟩
      have hb1 : Below wr.heap.size wr w1 := by rw [← hw1]; exact bel1 _ _
      have k0 : w1.cell? ⟨wr.heap.size, 0, none⟩ = some (.string nm) := by rw [← hw1]; simp [go_sem]
      have k1 : w1.cell? ⟨wr.heap.size, 1, none⟩ = some (.int .i64 u) := by rw [← hw1]; simp [go_sem]
      have k2 : w1.cell? ⟨wr.heap.size, 2, none⟩ = some (.bool lk) := by rw [← hw1]; simp [go_sem]
      have hz1 : w1.heap.size = wr.heap.size + 1 := by rw [← hw1]; simp
      have hP1 := (HPO.out.below hb1).drew
      have c0 := hP1.c0
      have LK := lookK hP1.mks nm hfn true
      simp only [if_true] at LK
      have HB1 := hide (HBL.out.trans (hb1.mono HBL.out.size))
      have HP1 := hide hP1
      cases hk2 : findK R nm with
      | some kd =>
        rw [hk2] at LK
        simp only [Option.map_some, Option.getD_some, Option.isSome_some] at LK
        have ea : addR R (nm, u, lk) = R := by unfold addR; rw [hk2]; rfl
        rw [ea] at hq
        clear ea
        have HQ := hide hq
        clear hP1 hb1 hq HFA hk2
        go_wp2_with fail
        first
        | rw [hw1]
        | skip
        clear hw1
        go_region
        all_goals
          go_wp2
          go_roundw
          case rel => exact ⟨k + 1, R, by have := HLT.out; omega, by go_num, HP1.out, HQ.out, by omega, HB1.out.drew⟩
          case measure => have := HLT.out; simp [intOf]; omega
      | none =>
        rw [hk2] at LK
        simp only [Option.map_none, Option.getD_none, Option.isSome_none] at LK
        have ea : addR R (nm, u, lk) = R ++ [(nm, kindF u lk)] := by unfold addR; rw [hk2]; rfl
        rw [ea] at hq HFA
        clear ea
        have HQ := hide hq
        have HN := hide (findK_none hk2)
        have HKO := hide (fun w => kindOf_any nm u lk w)
        have KP : Hid (∀ w2 w', Below w1.drew.drew.heap.size w1.drew.drew w2 → Only (· = a) w2 w' → w'.cell? ⟨p, 0, none⟩ = some (.map (some a)) ∧ w'.cell? ⟨wr.heap.size, 0, none⟩ = some (.string nm) ∧ w'.cell? ⟨wr.heap.size, 1, none⟩ = some (.int .i64 u) ∧ w'.cell? ⟨wr.heap.size, 2, none⟩ = some (.bool lk)) := hide (fun w2 w' hb ho' => by
          have h2 := hP1.drew.below hb
          exact ⟨ho'.cell h2.c0 hpa, ho'.cell (Below.keeps hb (Nat.le_refl _) (show w1.drew.drew.cell? _ = _ from k0)) (by simp only; omega), ho'.cell (Below.keeps hb (Nat.le_refl _) (show w1.drew.drew.cell? _ = _ from k1)) (by simp only; omega), ho'.cell (Below.keeps hb (Nat.le_refl _) (show w1.drew.drew.cell? _ = _ from k2)) (by simp only; omega)⟩)
        have HPUT : Hid (∀ w2, Below w1.drew.drew.heap.size w1.drew.drew w2 → ∃ w3, (Instr.mapUpdate 73 (.map (some a)) (.string nm) (kdV (kindF u lk))).run Try.prog w2 = .ok () w3 ∧ PoAt w3 p a b (R ++ [(nm, kindF u lk)]) [] ∧ Only (· = a) w2 w3 ∧ Below w.heap.size w w3) := hide (fun w2 hb => by
          have h2 := hP1.drew.below hb
          obtain ⟨w3, hr, hm3, ho3⟩ := h2.mks.put mkK (c := nm) hfn (HN.out) (kindF u lk) (by omega)
          refine ⟨w3, hr, ⟨?_, hm3, h2.mhs.only ho3 (fun e => hab e.symm), hab, HFA.out⟩, ho3, ?_⟩
          · rw [ho3.block p h2.lt.1 hpa]; exact h2.blk
          · have := HE.out
            exact (((HB1.out.drew).drew).trans (hb.mono HB1.out.size)).trans (ho3.toBelow (Nat.le_trans HB1.out.size hb.size) (fun i e => by omega)))
        clear hP1 hb1 hq HFA hk2
        generalize kindF u lk = kd at *
        go_wp2_with fail
        first
        | rw [hw1]
        | skip
        clear hw1
        go_region
        all_goals
          go_wp2_with fail
          first
          | (go_region_held3 (fun w' => w'.cell? ⟨p, 0, none⟩ = some (.map (some a)) ∧ w'.cell? ⟨wr.heap.size, 0, none⟩ = some (.string nm) ∧ w'.cell? ⟨wr.heap.size, 1, none⟩ = some (.int .i64 u) ∧ w'.cell? ⟨wr.heap.size, 2, none⟩ = some (.bool lk))
              (go_keep)
              (first
                | (go_at_call 50; refine (HKO.out _).mono ?_; rintro e w2 ⟨rfl, hb2⟩; obtain ⟨q0, q1, q2, q3⟩ := KP.out _ _ hb2 (Only.refl _ _); obtain ⟨w3, hrun, hp3, ho3, hon3⟩ := HPUT.out _ hb2; obtain ⟨r0, r1, r2, r3⟩ := KP.out _ _ hb2 ho3; have HP3 := hide hp3; have HO3 := hide hon3; clear hb2 hp3 ho3 hon3)))
          | fail
          all_goals
            go_wp2
            go_roundw
            case rel => exact ⟨k + 1, _, by have := HLT.out; omega, by go_num, HP3.out, HQ.out, by simp; omega, HO3.out⟩
            case measure => have := HLT.out; simp [intOf]; omega
    · have hkl : k = l.length := by omega
      subst hkl
      rw [List.drop_length] at hq
      have hq2 : R = Q := hq
      subst hq2
      go_wp2
      go_ret
      obtain ⟨h1, h2, h3⟩ := HE.out
      subst h1 h2 h3
      exact ⟨rfl, HPO.out, HBL.out⟩
end Go.Proofs.Ytkpambipgcjaiaa
