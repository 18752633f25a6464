/- Package dayshiftref11: New, right, ahead, Has, Any. -/
import Derived.Test.YtliinilbfacpbaaCmA
namespace Go.Proofs.Ytliinilbfacpbaa
open Go.ChangeShapes Go.WideShapes Go.ChangeAt Go.RowKit Go.DsMem Go.DsCo
set_option linter.unusedVariables false
/-- the reference's store at p holds these conditions, in a row of the call's own from block b on -/
structure RfSt (w : World) (p b : Nat) (uo : Option Addr) (uc : Nat) (L : List Cn) : Prop where
  hd : w.heap[p]? = some (.cells #[.slice uo L.length uc] 39 (0, 0))
  row : w.ownsRow b 24 2 (.slice uo L.length uc) L.length (cnRows L)
  fine : Fine L
theorem RfSt.c0 {w : World} {p b : Nat} {uo : Option Addr} {uc : Nat} {L : List Cn} (h : RfSt w p b uo uc L) : w.cell? ⟨p, 0, none⟩ = some (.slice uo L.length uc) := by rw [cell_of h.hd]; rfl
theorem RfSt.lt {w : World} {p b : Nat} {uo : Option Addr} {uc : Nat} {L : List Cn} (h : RfSt w p b uo uc L) : p < w.heap.size := block_lt h.hd
theorem RfSt.cap {w : World} {p b : Nat} {uo : Option Addr} {uc : Nat} {L : List Cn} (h : RfSt w p b uo uc L) : L.length ≤ uc := by
  rcases h.row.2 with ⟨h0, h1⟩ | ⟨g', cap', cur, hv, hb, hg, h1, h2, h3, h4⟩
  · omega
  · simp at hv; omega
theorem RfSt.own {w : World} {p b : Nat} {uo : Option Addr} {uc : Nat} {L : List Cn} (h : RfSt w p b uo uc L) : uo = none ∧ L = [] ∨ ∃ g, uo = some ⟨g, 0, none⟩ ∧ CnRow w b g uc L := by
  rcases h.row.2 with ⟨h0, h1⟩ | ⟨g', cap', cur, hv, hb, hg, h1, h2, h3, h4⟩
  · simp at h0
    exact .inl ⟨h0.1, List.eq_nil_of_length_eq_zero h1⟩
  · simp at hv
    obtain ⟨rfl, rfl⟩ := hv
    exact .inr ⟨g', rfl, h.row⟩
theorem RfSt.rd {w : World} {p b : Nat} {uo : Option Addr} {uc : Nat} {L : List Cn} (h : RfSt w p b uo uc L) : CnsRd w uo L := by
  rcases h.own with ⟨rfl, rfl⟩ | ⟨g, rfl, hr⟩
  · exact CnsRd.nil _ _
  · exact hr.rd
theorem own2_same {w w' : World} {B : Nat} {e : TypeId} {k : Nat} {v : Value} {n : Nat} {xs : List Value} (h : w.ownsRow B e k v n xs) (hk : ∀ k, v.ownBlock = some k → w'.heap[k]? = w.heap[k]?) : w'.ownsRow B e k v n xs := by
  refine ⟨h.1, ?_⟩
  rcases h.2 with h0 | ⟨g, cap, cur, rfl, hb, hg, r⟩
  · exact .inl h0
  · exact .inr ⟨g, cap, cur, rfl, hb, by rw [hk g rfl]; exact hg, r⟩
theorem own2_base {w : World} {B B' : Nat} {e : TypeId} {k : Nat} {v : Value} {n : Nat} {xs : List Value} (h : w.ownsRow B e k v n xs) (hB : B' ≤ B) : w.ownsRow B' e k v n xs := by
  refine ⟨h.1, ?_⟩
  rcases h.2 with h0 | ⟨g, cap, cur, hv, hb, r⟩
  · exact .inl h0
  · exact .inr ⟨g, cap, cur, hv, by omega, r⟩
/-- it lies in the blocks p and, if it is not empty, g -/
theorem RfSt.only {S : Nat → Prop} {w w' : World} {p b : Nat} {uo : Option Addr} {uc : Nat} {L : List Cn} (h : RfSt w p b uo uc L) (ho : Only S w w') (h1 : ¬ S p) (h2 : ∀ g o, uo = some ⟨g, o, none⟩ → ¬ S g) : RfSt w' p b uo uc L :=
  ⟨(ho.block p h.lt h1).trans h.hd, own2_same h.row (fun k hk => by
    rcases h.own with ⟨rfl, rfl⟩ | ⟨g, rfl, hr⟩
    · cases hk
    · obtain rfl : g = k := Option.some.inj hk
      exact ho.block g hr.lt (h2 g 0 rfl)), h.fine⟩
theorem RfSt.below {w w' : World} {p b : Nat} {uo : Option Addr} {uc : Nat} {L : List Cn} (h : RfSt w p b uo uc L) (hb : Below w.heap.size w w') : RfSt w' p b uo uc L := h.only (S := fun _ => False) (Only.below hb) (fun h => h) (fun _ _ _ h => h)
theorem RfSt.drew {w : World} {p b : Nat} {uo : Option Addr} {uc : Nat} {L : List Cn} (h : RfSt w p b uo uc L) : RfSt w.drew p b uo uc L := ⟨h.hd, own2_same h.row (fun _ _ => rfl), h.fine⟩
set_option maxHeartbeats 4000000 in
/-- New -/
theorem rnew_any (w : World) : Calls Try.prog 9 #[] w fun e w' => e = .returned (ptr w.heap.size) ∧ RfSt w' w.heap.size w.heap.size none 0 [] ∧ Below w.heap.size w w' := by
  go_enter Try.func9, Try.ntmps9
  go_wp2
  go_ret
  exact ⟨rfl, ⟨heap_alloc_new w _, World.ownsRow_nil _ _ _ _, Fine.nil⟩, (Below.refl _ _).alloc (Nat.le_refl _) _⟩
theorem rdright_any (n : Int) (w : World) : Calls Try.prog 43 #[.int .i64 n] w fun e w' => e = .returned (.bool (decide (1 ≤ n ∧ n ≤ 3652059))) ∧ w' = w := by
  go_enter Try.func43, Try.ntmps43
  go_wp2 <;> go_ret <;> exact ⟨ret_boolC (by simp; omega), rfl⟩
set_option maxHeartbeats 4000000 in
/-- right -/
theorem rright_any (c : Cn) (w : World) (hs : c.nm.size ≤ 140737488355000) : Calls Try.prog 36 #[cvl c] w fun e w' => e = .returned (.bool (okB c)) ∧ Below w.heap.size w w' := by
  obtain ⟨nm, day⟩ := c
  simp only at hs
  unfold cvl
  simp only
  have HD := hide (rdright_any day)
  by_cases hd : 1 ≤ day ∧ day ≤ 3652059
  · have HT : Hid (okB ⟨nm, day⟩ = decide (1 ≤ nm.size ∧ nm.size ≤ 20)) := by
      show _ = _
      by_cases h : 1 ≤ nm.size ∧ nm.size ≤ 20
      · rw [okB_true ⟨h.1, h.2, hd.1, hd.2⟩]; simp [h]
      · rw [okB_false (fun hc => h ⟨hc.1, hc.2.1⟩)]; simp [h]
    have hdt : decide (1 ≤ day ∧ day ≤ 3652059) = true := by simp [hd]
    rw [hdt] at HD
    clear hdt
    by_cases h1 : 1 ≤ nm.size
    · by_cases h2 : nm.size ≤ 20
      · go_enter Try.func36, Try.ntmps36
        go_wp2_with (go_at_call 43; refine (HD.out _).mono ?_; rintro e w' ⟨rfl, rfl⟩)
        go_ret
        exact ⟨ret_boolC (by rw [HT.out]; simp [h1, h2]), (Below.refl _ _).alloc (Nat.le_refl _) _⟩
      · go_enter Try.func36, Try.ntmps36
        go_wp2
        go_ret
        exact ⟨ret_boolC (by rw [HT.out]; simp [h1, h2]), (Below.refl _ _).alloc (Nat.le_refl _) _⟩
    · go_enter Try.func36, Try.ntmps36
      go_wp2
      go_ret
      exact ⟨ret_boolC (by rw [HT.out]; simp [h1]), (Below.refl _ _).alloc (Nat.le_refl _) _⟩
  · have HT : Hid (okB ⟨nm, day⟩ = false) := okB_false (fun hc => hd ⟨hc.2.2.1, hc.2.2.2⟩)
    have hdt : decide (1 ≤ day ∧ day ≤ 3652059) = false := by simpa using hd
    rw [hdt] at HD
    clear hdt
    by_cases h1 : 1 ≤ nm.size
    · by_cases h2 : nm.size ≤ 20
      · go_enter Try.func36, Try.ntmps36
        go_wp2_with (go_at_call 43; refine (HD.out _).mono ?_; rintro e w' ⟨rfl, rfl⟩)
        go_ret
        exact ⟨ret_boolC (by rw [HT.out]), (Below.refl _ _).alloc (Nat.le_refl _) _⟩
      · go_enter Try.func36, Try.ntmps36
        go_wp2
        go_ret
        exact ⟨ret_boolC (by rw [HT.out]), (Below.refl _ _).alloc (Nat.le_refl _) _⟩
    · go_enter Try.func36, Try.ntmps36
      go_wp2
      go_ret
      exact ⟨ret_boolC (by rw [HT.out]), (Below.refl _ _).alloc (Nat.le_refl _) _⟩
/-- the one stands ahead, as a Bool -/
noncomputable def ahB (a b : Cn) : Bool := @decide (DsCo.ahead a b) (Classical.propDecidable _)
theorem ahB_true {a b : Cn} (h : DsCo.ahead a b) : ahB a b = true := by unfold ahB; exact @decide_eq_true _ (Classical.propDecidable _) h
theorem ahB_false {a b : Cn} (h : ¬ DsCo.ahead a b) : ahB a b = false := by unfold ahB; exact @decide_eq_false _ (Classical.propDecidable _) h
set_option maxHeartbeats 4000000 in
/-- ahead -/
theorem rahead_any (a c : Cn) (w : World) : Calls Try.prog 37 #[cvl a, cvl c] w fun e w' => e = .returned (.bool (ahB a c)) ∧ Below w.heap.size w w' := by
  unfold cvl
  have e1 := bl_ltC a.nm c.nm
  have HBL : Hid (Below w.heap.size w ((w.alloc (.cells #[.string a.nm, .int .i64 a.day] 24)).alloc (.cells #[.string c.nm, .int .i64 c.day] 24))) := ((Below.refl _ _).alloc (Nat.le_refl _) _).alloc (by simp) _
  by_cases h1 : a.nm.data.toList < c.nm.data.toList
  · have HR := hide (ahB_true (a := a) (b := c) (.inl h1))
    rw [@decide_eq_true _ (Classical.propDecidable _) h1] at e1
    go_enter Try.func37, Try.ntmps37
    go_wp2
    go_ret
    exact ⟨ret_boolC HR.out.symm, HBL.out⟩
  · rw [@decide_eq_false _ (Classical.propDecidable _) h1] at e1
    by_cases h2 : a.nm = c.nm
    · by_cases h3 : a.day < c.day
      · have HR := hide (ahB_true (a := a) (b := c) (.inr ⟨by unfold Cn.k; rw [h2], h3⟩))
        rw [h2] at e1 HBL ⊢
        go_enter Try.func37, Try.ntmps37
        go_wp2
        go_ret
        exact ⟨ret_boolC HR.out.symm, HBL.out⟩
      · have HR := hide (ahB_false (a := a) (b := c) (fun h => h.elim h1 (fun h => h3 h.2)))
        rw [h2] at e1 HBL ⊢
        go_enter Try.func37, Try.ntmps37
        go_wp2
        go_ret
        exact ⟨ret_boolC HR.out.symm, HBL.out⟩
    · have HR := hide (ahB_false (a := a) (b := c) (fun h => h.elim h1 (fun h => h2 (nm_of_k h.1))))
      have e2 := str_neC h2
      go_enter Try.func37, Try.ntmps37
      go_wp2
      go_ret
      exact ⟨ret_boolC HR.out.symm, HBL.out⟩
set_option maxHeartbeats 8000000 in
set_option maxRecDepth 20000 in
/-- Has -/
theorem rhas_any (c : Cn) (p b : Nat) (uo : Option Addr) (uc : Nat) (L : List Cn) (w : World) (h : RfSt w p b uo uc L) : Calls Try.prog 18 #[ptr p, cvl c] w fun e w' => e = .returned (.bool (inB c L)) ∧ Below w.heap.size w w' := by
  unfold ptr cvl
  have H := hide h
  have hp := h.lt
  have h128 := h.fine.le
  have hcap := h.cap
  have BX0 := BoxC.new w c 24
  have HBL0 : Below w.heap.size w (w.alloc (.cells #[.string c.nm, .int .i64 c.day] 24)) := (Below.refl _ _).alloc (Nat.le_refl _) _
  obtain ⟨w0, hw0⟩ : ∃ w0, w0 = w.alloc (.cells #[.string c.nm, .int .i64 c.day] 24) := ⟨_, rfl⟩
  rw [← hw0] at BX0 HBL0
  have BX := hide BX0
  have HB := hide HBL0
  have H0 := hide (h.below HBL0)
  clear h BX0 HBL0
  go_enter Try.func18, Try.ntmps18
  go_wp2
  rw [← hw0]
  clear hw0
  generalize hq : w.heap.size = q at *
  go_loopw [5] (fun i wr => ∃ k : Nat, k ≤ L.length ∧ i = .int .i64 k ∧ c ∉ L.take k ∧ RfSt wr p b uo uc L ∧ BoxC wr q c ∧ Below q w wr) (fun i _ => L.length - (intOf i).toNat)
  case atStart => exact ⟨0, Nat.zero_le _, rfl, by simp, H0.out, BX.out, HB.out⟩
  case round =>
    obtain ⟨k, hk, rfl, hnot, hst, hbx, hbl⟩ := hrel
    have HNOT := hide hnot
    have HST := hide hst
    have HBX := hide hbx
    have HBL := hide hbl
    have c0 := hst.c0
    clear hnot hst hbx hbl
    by_cases hlt : k < L.length
    · obtain ⟨g, o, rfl, hin⟩ := HST.out.rd k hlt
      have HTK : Hid (L.take (k + 1) = L.take k ++ [L[k]]) := List.take_succ_eq_append_getElem hlt
      have hmem := hide (List.getElem_mem hlt)
      obtain ⟨x0, x1⟩ := hin
      obtain ⟨y0, y1⟩ := HBX.out
      have HSTD := hide HST.out.drew
      have HBXD : Hid (BoxC wr.drew q c) := ⟨y0, y1⟩
      have HBLD := hide HBL.out.drew
      generalize L[k] = x at *
      have hk0 : (0 : Int) ≤ (k : Int) := by omega
      have hk1 : (k : Int) < ((L.length : Nat) : Int) := by omega
      by_cases hxc : x = c
      · subst hxc
        have hr : Hid (inB x L = true) := inB_true hmem.out
        go_wp2
        first
          | (go_region_held3 (fun w' => w'.cell? ⟨p, 0, none⟩ = some (.slice (some ⟨g, o, none⟩) L.length uc) ∧ w'.cell? ⟨g, o + k * 2, none⟩ = some (.string x.nm) ∧ w'.cell? ⟨g, o + k * 2 + 1, none⟩ = some (.int .i64 x.day) ∧ w'.cell? ⟨q, 0, none⟩ = some (.string x.nm) ∧ w'.cell? ⟨q, 1, none⟩ = some (.int .i64 x.day))
              (go_keep)
              (fail))
          | fail
        go_wp2
        go_ret
        exact ⟨ret_boolC hr.out.symm, by rw [hq]; exact HBLD.out⟩
      · have HN2 : Hid (c ∉ L.take (k + 1)) := by
          refine hide ?_
          rw [HTK.out, List.mem_append, List.mem_singleton]
          exact fun h => h.elim HNOT.out (fun e => hxc e.symm)
        rcases cn_ne hxc with hd | ⟨he, hd⟩
        · go_wp2
          first
            | (go_region_held3 (fun w' => w'.cell? ⟨p, 0, none⟩ = some (.slice (some ⟨g, o, none⟩) L.length uc) ∧ w'.cell? ⟨g, o + k * 2, none⟩ = some (.string x.nm) ∧ w'.cell? ⟨g, o + k * 2 + 1, none⟩ = some (.int .i64 x.day) ∧ w'.cell? ⟨q, 0, none⟩ = some (.string c.nm) ∧ w'.cell? ⟨q, 1, none⟩ = some (.int .i64 c.day))
                (go_keep)
                (fail))
            | fail
          go_wp2
          go_roundw
          case rel => exact ⟨k + 1, by omega, by go_num, HN2.out, HSTD.out, HBXD.out, HBLD.out⟩
          case measure => simp [intOf]; omega
        · rw [← he] at y0
          go_wp2
          first
            | (go_region_held3 (fun w' => w'.cell? ⟨p, 0, none⟩ = some (.slice (some ⟨g, o, none⟩) L.length uc) ∧ w'.cell? ⟨g, o + k * 2, none⟩ = some (.string x.nm) ∧ w'.cell? ⟨g, o + k * 2 + 1, none⟩ = some (.int .i64 x.day) ∧ w'.cell? ⟨q, 0, none⟩ = some (.string x.nm) ∧ w'.cell? ⟨q, 1, none⟩ = some (.int .i64 c.day))
                (go_keep)
                (fail))
            | fail
          go_wp2
          go_roundw
          case rel => exact ⟨k + 1, by omega, by go_num, HN2.out, HSTD.out, HBXD.out, HBLD.out⟩
          case measure => simp [intOf]; omega
    · have hr : Hid (inB c L = false) := inB_false (by have := HNOT.out; rw [List.take_of_length_le (by omega)] at this; exact this)
      go_wp2
      go_ret
      exact ⟨ret_boolC hr.out.symm, by rw [hq]; exact HBL.out⟩
set_option maxHeartbeats 8000000 in
set_option maxRecDepth 20000 in
/-- Any -/
theorem rany_any (s : ByteArray) (p b : Nat) (uo : Option Addr) (uc : Nat) (L : List Cn) (w : World) (h : RfSt w p b uo uc L) : Calls Try.prog 20 #[ptr p, .string s] w fun e w' => e = .returned (.bool (anyB s L)) ∧ Below w.heap.size w w' := by
  unfold ptr
  have H := hide h
  have h128 := h.fine.le
  have hcap := h.cap
  clear h
  go_enter Try.func20, Try.ntmps20
  go_wp2
  go_loopw [5] (fun i wr => ∃ k : Nat, k ≤ L.length ∧ i = .int .i64 k ∧ (∀ c ∈ L.take k, ¬ c.nm = s) ∧ wr = w) (fun i _ => L.length - (intOf i).toNat)
  case atStart => exact ⟨0, Nat.zero_le _, rfl, by simp, rfl⟩
  case round =>
    obtain ⟨k, hk, rfl, hnot, rfl⟩ := hrel
    have HNOT := hide hnot
    have c0 := H.out.c0
    clear hnot
    by_cases hlt : k < L.length
    · obtain ⟨g, o, rfl, hin⟩ := H.out.rd k hlt
      have HTK : Hid (L.take (k + 1) = L.take k ++ [L[k]]) := List.take_succ_eq_append_getElem hlt
      have hmem := hide (List.getElem_mem hlt)
      obtain ⟨x0, x1⟩ := hin
      generalize L[k] = x at *
      by_cases hxc : x.nm = s
      · have hr : Hid (anyB s L = true) := (anyB_iff s L).2 ⟨x, hmem.out, hxc⟩
        rw [hxc] at x0
        go_wp2
        go_ret
        exact ⟨ret_boolC hr.out.symm, Below.refl _ _⟩
      · have HN2 : Hid (∀ c ∈ L.take (k + 1), ¬ c.nm = s) := by
          refine hide ?_
          rw [HTK.out]
          intro d hd
          rcases List.mem_append.1 hd with h | h
          · exact HNOT.out d h
          · simp at h; rw [h]; exact hxc
        have hne := str_neC hxc
        go_wp2
        go_roundw
        case rel => exact ⟨k + 1, by omega, by go_num, HN2.out, trivial⟩
        case measure => simp [intOf]; omega
    · have hr : Hid (anyB s L = false) := anyB_false (by have := HNOT.out; rw [List.take_of_length_le (by omega)] at this; exact this)
      go_wp2
      go_ret
      exact ⟨ret_boolC hr.out.symm, Below.refl _ _⟩
end Go.Proofs.Ytliinilbfacpbaa
