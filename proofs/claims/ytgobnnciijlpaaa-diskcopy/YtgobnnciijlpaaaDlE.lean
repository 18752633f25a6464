/- The walk of dayshiftlaw03.do: Append to both. -/
import Derived.Test.YtgobnnciijlpaaaDlD
namespace Go.Proofs.Ytgobnnciijlpaaa
open Go.ChangeShapes Go.WideShapes Go.ChangeAt Go.RowKit Go.DsMem Go.DsDk
set_option linter.unusedVariables false

theorem LentAt.below {B g : Nat} {w w' : World} {b : List UInt8} (h : LentAt B w g b) (hb : Below w.heap.size w w') : LentAt B w' g b := own_below h hb
theorem lent_only {B gl : Nat} {w w' : World} {b : List UInt8} {T : Nat → Prop} (h : LentAt B w gl b) (ho : Only T w w') (hn : ¬ T gl) : LentAt B w' gl b := own_only h ho (fun k hk e => by
  have e2 : gl = k := Option.some.inj hk
  exact hn (by rw [e2]; exact e))
theorem lent_ronly {B gl r g : Nat} {w w' : World} {b : List UInt8} {S : Nat → Prop} {u u' : Nat → Value} {E E' : Dk} (h : LentAt B w gl b) (hm : RMoved w S r g w' u' E') (hr : RefAt w S r g u E) (hn : ¬ S gl) : LentAt B w' gl b :=
  lent_only h hm.only (fun e => by
    rcases e with e | e
    · exact hn (by rw [e]; exact hr.sr)
    · exact hn (by rw [e]; exact hr.sg))
theorem Moved.off {w w' : World} {p n : Nat} {v v' : Nat → Value} {D' : Dk} (hm : Moved w p v w' v' D') (h : ¬ foot p v n) (hn : n < w.heap.size) : ¬ foot p v' n := fun hf => by
  rcases hm.grow n hf with h1 | h1
  · exact h h1
  · omega
theorem LentAt.lt {B gl : Nat} {w : World} {b : List UInt8} (h : LentAt B w gl b) : gl < w.heap.size := by
  obtain ⟨cur, hg, _⟩ := own_row h
  exact block_lt hg
set_option maxHeartbeats 4000000 in
set_option maxRecDepth 20000 in
theorem do_0 {W w : World} {p : Nat} {v : Nat → Value} {D : Dk} {S : Nat → Prop} {r g : Nat} {u : Nat → Value} {f gg n : Int} {b : List UInt8} {keep : List Int} {bo ko : Option Addr} {bc kc : Nat} (h : Both W w p v D S r g u D) (hb : Rd W (.slice bo b.length bc) b) (hbl : b.length ≤ 140737488351232) :
    Calls Try.prog 13 #[.pointer (some ⟨p, 0, none⟩), .pointer (some ⟨r, 0, none⟩), .agg #[.int .i64 0, .int .i64 f, .int .i64 gg, .slice bo b.length bc, .int .i64 n, .slice ko keep.length kc]] w fun e w' => e = .returned (.bool true) ∧ ∃ v' S' u', Both W w' p v' ((D.append f b).1) S' r g u' ((D.append f b).1) ∧ Only (fun k => foot p v k ∨ S k) w w' := by
  have HB := hide h
  clear h
  go_enter Try.func13, Try.ntmps13
  have HRB := hide hb
  clear hb
  go_wp2_with fail
  obtain ⟨n0, hn0⟩ : ∃ n0, n0 = w.heap.size := ⟨_, rfl⟩
  obtain ⟨wa, hwa⟩ : ∃ wa, wa = w.alloc (.cells #[.int .i64 0, .int .i64 f, .int .i64 gg, .slice bo b.length bc, .int .i64 n, .slice ko keep.length kc] 30) := ⟨_, rfl⟩
  rw [← hwa, ← hn0]
  have hX : wa.heap[n0]? = some (.cells #[.int .i64 0, .int .i64 f, .int .i64 gg, .slice bo b.length bc, .int .i64 n, .slice ko keep.length kc] 30 (0, 0)) := by rw [hwa, hn0]; exact heap_alloc_new w _
  have hBa : Both W wa p v D S r g u D := by rw [hwa]; exact HB.out.alloc _
  have HOA : Hid (Only (fun k => foot p v k ∨ S k) w wa) := by show Only _ _ _; rw [hwa]; exact Only.alloc _ _ _
  have hlt := HB.out.lt (k := n0) (by omega)
  have hna := block_lt hX
  have hc1 := cell_of (k := 1) hX
  have hc3 := cell_of (k := 3) hX
  simp only [List.getElem?_toArray, List.getElem?_cons_zero, List.getElem?_cons_succ] at hc1 hc3
  have HBA := hide hBa
  have HLT := hide hlt
  clear hX hBa hwa hn0 hlt
  refine (lent_any b _ wa (rd_in HRB.out HBA.out.own.below (Nat.le_refl _)) hbl).mono ?_
  rintro e wl ⟨rfl, hL, BL⟩
  have hgl := HBA.out.lt (k := wa.heap.size) (Nat.le_refl _)
  have hln := hL.lt
  have HOL := hide (HOA.out.trans (Only.below (S := fun _ => False) BL) (fun _ _ e => e.elim))
  have hws := HOA.out.size
  generalize hgw : wa.heap.size = gl at *
  have HWS := hide hws
  clear hws
  have hcl1 : wl.cell? ⟨n0, 1, none⟩ = some (.int .i64 f) := Below.keeps BL (by omega) hc1
  have hcl3 : wl.cell? ⟨n0, 3, none⟩ = some (.slice bo b.length bc) := Below.keeps BL (by omega) hc3
  have HBL := hide (HBA.out.grew (by rw [hgw]; exact BL))
  have HL := hide hL
  have HGL := hide hgl
  clear hL BL hgl hc1 hc3 hgw
  go_wp2
  go_region_held (fun w' => w'.cell? ⟨n0, 1, none⟩ = some (.int .i64 f) ∧ w'.cell? ⟨n0, 3, none⟩ = some (.slice bo b.length bc)) (go_keep) (first
    | (go_at_call 11; refine (append_any p v D f _ b _ HBL.out.drew.own.dk (Rd.drew HL.out.rd)).mono ?_; rintro e w1 ⟨rfl, v1, hm1⟩; have hd1 : w1.cell? ⟨n0, 1, none⟩ = some (.int .i64 f) := hm1.keeps hcl1 HLT.out.2.1; have hd3 : w1.cell? ⟨n0, 3, none⟩ = some (.slice bo b.length bc) := hm1.keeps hcl3 HLT.out.2.1; have HB1 := hide (HBL.out.drew.left hm1); have HO1 := hide (HOL.out.drew.trans hm1.only (fun _ _ e => .inl e)); have HL1 := hide (lent_only (w := wl.drew) HL.out hm1.only HGL.out.2.1); have HF1 := hide (hm1.off HGL.out.2.1 (by show gl < wl.heap.size; omega)); clear hm1)
    | (go_at_call 31; refine (rappend_any S r g u D f _ b _ HB1.out.ref (rd_in HRB.out HB1.out.own.below (Nat.le_refl _)) (HB1.out.argT HRB.out) hbl).mono ?_; rintro e w2 ⟨rfl, u2, hm2⟩; have he1 : w2.cell? ⟨n0, 1, none⟩ = some (.int .i64 f) := hm2.keeps HB1.out.ref hd1 HLT.out.2.2; have he3 : w2.cell? ⟨n0, 3, none⟩ = some (.slice bo b.length bc) := hm2.keeps HB1.out.ref hd3 HLT.out.2.2; have HB2 := hide (HB1.out.right hm2); have HO2 := hide (HO1.out.trans (hm2.onlyS HB1.out.ref) (fun _ _ e => .inr e)); have HL2 := hide (lent_ronly HL1.out hm2 HB1.out.ref HGL.out.2.2); have HG2 : Hid (¬ (S gl ∨ w1.heap.size ≤ gl ∧ gl < w2.heap.size)) := fun e => (by have := HL1.out.lt; rcases e with e | e; exact HGL.out.2.2 e; omega); clear hm2)
    | (go_at_call 32; refine (kept_any _ gl b _ _ HL2.out (rd_in HRB.out HB2.out.own.below (Nat.le_refl _)) hbl).mono ?_; rintro e w3 ⟨rfl, B3⟩; have hf1 : w3.cell? ⟨n0, 1, none⟩ = some (.int .i64 f) := Below.keeps B3 (Nat.le_refl _) he1; have hf3 : w3.cell? ⟨n0, 3, none⟩ = some (.slice bo b.length bc) := Below.keeps B3 (Nat.le_refl _) he3; have HB3 := hide (HB2.out.grew B3); have HO3 := hide (HO2.out.trans (Only.below (S := fun _ => False) B3) (fun _ _ e => e.elim)); have HL3 := hide (HL2.out.below B3); clear B3))
  go_wp2_with (go_at_call 18; refine (spoil_any _ _ _ _ _ HL3.out.own).mono ?_; rintro e w4 ⟨rfl, ho4⟩; have HB4 := hide (HB3.out.only ho4 (fun k hk => by have e2 : gl = k := Option.some.inj hk; rw [← e2]; exact ⟨HGL.out.1, HF1.out, HG2.out⟩)); have HO4 := hide (HO3.out.trans ho4 (fun i hi e => by have e2 : gl = i := Option.some.inj e; have := HWS.out; omega)); clear ho4)
  go_ret
  exact ⟨rfl, _, _, _, HB4.out, HO4.out⟩
set_option maxHeartbeats 4000000 in
set_option maxRecDepth 20000 in
theorem do_1 {W w : World} {p : Nat} {v : Nat → Value} {D : Dk} {S : Nat → Prop} {r g : Nat} {u : Nat → Value} {f gg n : Int} {b : List UInt8} {keep : List Int} {bo ko : Option Addr} {bc kc : Nat} (h : Both W w p v D S r g u D) (hb : Rd W (.slice bo b.length bc) b) (hbl : b.length ≤ 140737488351232) :
    Calls Try.prog 13 #[.pointer (some ⟨p, 0, none⟩), .pointer (some ⟨r, 0, none⟩), .agg #[.int .i64 1, .int .i64 f, .int .i64 gg, .slice bo b.length bc, .int .i64 n, .slice ko keep.length kc]] w fun e w' => e = .returned (.bool true) ∧ ∃ v' S' u', Both W w' p v' ((D.append f b).1) S' r g u' ((D.append f b).1) ∧ Only (fun k => foot p v k ∨ S k) w w' := by
  have HB := hide h
  clear h
  go_enter Try.func13, Try.ntmps13
  have HRB := hide hb
  clear hb
  go_wp2_with fail
  obtain ⟨n0, hn0⟩ : ∃ n0, n0 = w.heap.size := ⟨_, rfl⟩
  obtain ⟨wa, hwa⟩ : ∃ wa, wa = w.alloc (.cells #[.int .i64 1, .int .i64 f, .int .i64 gg, .slice bo b.length bc, .int .i64 n, .slice ko keep.length kc] 30) := ⟨_, rfl⟩
  rw [← hwa, ← hn0]
  have hX : wa.heap[n0]? = some (.cells #[.int .i64 1, .int .i64 f, .int .i64 gg, .slice bo b.length bc, .int .i64 n, .slice ko keep.length kc] 30 (0, 0)) := by rw [hwa, hn0]; exact heap_alloc_new w _
  have hBa : Both W wa p v D S r g u D := by rw [hwa]; exact HB.out.alloc _
  have HOA : Hid (Only (fun k => foot p v k ∨ S k) w wa) := by show Only _ _ _; rw [hwa]; exact Only.alloc _ _ _
  have hlt := HB.out.lt (k := n0) (by omega)
  have hna := block_lt hX
  have hc1 := cell_of (k := 1) hX
  have hc3 := cell_of (k := 3) hX
  simp only [List.getElem?_toArray, List.getElem?_cons_zero, List.getElem?_cons_succ] at hc1 hc3
  have HBA := hide hBa
  have HLT := hide hlt
  clear hX hBa hwa hn0 hlt
  refine (lent_any b _ wa (rd_in HRB.out HBA.out.own.below (Nat.le_refl _)) hbl).mono ?_
  rintro e wl ⟨rfl, hL, BL⟩
  have hgl := HBA.out.lt (k := wa.heap.size) (Nat.le_refl _)
  have hln := hL.lt
  have HOL := hide (HOA.out.trans (Only.below (S := fun _ => False) BL) (fun _ _ e => e.elim))
  have hws := HOA.out.size
  generalize hgw : wa.heap.size = gl at *
  have HWS := hide hws
  clear hws
  have hcl1 : wl.cell? ⟨n0, 1, none⟩ = some (.int .i64 f) := Below.keeps BL (by omega) hc1
  have hcl3 : wl.cell? ⟨n0, 3, none⟩ = some (.slice bo b.length bc) := Below.keeps BL (by omega) hc3
  have HBL := hide (HBA.out.grew (by rw [hgw]; exact BL))
  have HL := hide hL
  have HGL := hide hgl
  clear hL BL hgl hc1 hc3 hgw
  go_wp2
  go_region_held (fun w' => w'.cell? ⟨n0, 1, none⟩ = some (.int .i64 f) ∧ w'.cell? ⟨n0, 3, none⟩ = some (.slice bo b.length bc)) (go_keep) (first
    | (go_at_call 11; refine (append_any p v D f _ b _ HBL.out.drew.own.dk (Rd.drew HL.out.rd)).mono ?_; rintro e w1 ⟨rfl, v1, hm1⟩; have hd1 : w1.cell? ⟨n0, 1, none⟩ = some (.int .i64 f) := hm1.keeps hcl1 HLT.out.2.1; have hd3 : w1.cell? ⟨n0, 3, none⟩ = some (.slice bo b.length bc) := hm1.keeps hcl3 HLT.out.2.1; have HB1 := hide (HBL.out.drew.left hm1); have HO1 := hide (HOL.out.drew.trans hm1.only (fun _ _ e => .inl e)); have HL1 := hide (lent_only (w := wl.drew) HL.out hm1.only HGL.out.2.1); have HF1 := hide (hm1.off HGL.out.2.1 (by show gl < wl.heap.size; omega)); clear hm1)
    | (go_at_call 31; refine (rappend_any S r g u D f _ b _ HB1.out.ref (rd_in HRB.out HB1.out.own.below (Nat.le_refl _)) (HB1.out.argT HRB.out) hbl).mono ?_; rintro e w2 ⟨rfl, u2, hm2⟩; have he1 : w2.cell? ⟨n0, 1, none⟩ = some (.int .i64 f) := hm2.keeps HB1.out.ref hd1 HLT.out.2.2; have he3 : w2.cell? ⟨n0, 3, none⟩ = some (.slice bo b.length bc) := hm2.keeps HB1.out.ref hd3 HLT.out.2.2; have HB2 := hide (HB1.out.right hm2); have HO2 := hide (HO1.out.trans (hm2.onlyS HB1.out.ref) (fun _ _ e => .inr e)); have HL2 := hide (lent_ronly HL1.out hm2 HB1.out.ref HGL.out.2.2); have HG2 : Hid (¬ (S gl ∨ w1.heap.size ≤ gl ∧ gl < w2.heap.size)) := fun e => (by have := HL1.out.lt; rcases e with e | e; exact HGL.out.2.2 e; omega); clear hm2)
    | (go_at_call 32; refine (kept_any _ gl b _ _ HL2.out (rd_in HRB.out HB2.out.own.below (Nat.le_refl _)) hbl).mono ?_; rintro e w3 ⟨rfl, B3⟩; have hf1 : w3.cell? ⟨n0, 1, none⟩ = some (.int .i64 f) := Below.keeps B3 (Nat.le_refl _) he1; have hf3 : w3.cell? ⟨n0, 3, none⟩ = some (.slice bo b.length bc) := Below.keeps B3 (Nat.le_refl _) he3; have HB3 := hide (HB2.out.grew B3); have HO3 := hide (HO2.out.trans (Only.below (S := fun _ => False) B3) (fun _ _ e => e.elim)); have HL3 := hide (HL2.out.below B3); clear B3))
  go_wp2_with (go_at_call 18; refine (spoil_any _ _ _ _ _ HL3.out.own).mono ?_; rintro e w4 ⟨rfl, ho4⟩; have HB4 := hide (HB3.out.only ho4 (fun k hk => by have e2 : gl = k := Option.some.inj hk; rw [← e2]; exact ⟨HGL.out.1, HF1.out, HG2.out⟩)); have HO4 := hide (HO3.out.trans ho4 (fun i hi e => by have e2 : gl = i := Option.some.inj e; have := HWS.out; omega)); clear ho4)
  go_ret
  exact ⟨rfl, _, _, _, HB4.out, HO4.out⟩
set_option maxHeartbeats 4000000 in
set_option maxRecDepth 20000 in
theorem do_2 {W w : World} {p : Nat} {v : Nat → Value} {D : Dk} {S : Nat → Prop} {r g : Nat} {u : Nat → Value} {f gg n : Int} {b : List UInt8} {keep : List Int} {bo ko : Option Addr} {bc kc : Nat} (h : Both W w p v D S r g u D) (hb : Rd W (.slice bo b.length bc) b) (hbl : b.length ≤ 140737488351232) :
    Calls Try.prog 13 #[.pointer (some ⟨p, 0, none⟩), .pointer (some ⟨r, 0, none⟩), .agg #[.int .i64 2, .int .i64 f, .int .i64 gg, .slice bo b.length bc, .int .i64 n, .slice ko keep.length kc]] w fun e w' => e = .returned (.bool true) ∧ ∃ v' S' u', Both W w' p v' ((D.append f b).1) S' r g u' ((D.append f b).1) ∧ Only (fun k => foot p v k ∨ S k) w w' := by
  have HB := hide h
  clear h
  go_enter Try.func13, Try.ntmps13
  have HRB := hide hb
  clear hb
  go_wp2_with fail
  obtain ⟨n0, hn0⟩ : ∃ n0, n0 = w.heap.size := ⟨_, rfl⟩
  obtain ⟨wa, hwa⟩ : ∃ wa, wa = w.alloc (.cells #[.int .i64 2, .int .i64 f, .int .i64 gg, .slice bo b.length bc, .int .i64 n, .slice ko keep.length kc] 30) := ⟨_, rfl⟩
  rw [← hwa, ← hn0]
  have hX : wa.heap[n0]? = some (.cells #[.int .i64 2, .int .i64 f, .int .i64 gg, .slice bo b.length bc, .int .i64 n, .slice ko keep.length kc] 30 (0, 0)) := by rw [hwa, hn0]; exact heap_alloc_new w _
  have hBa : Both W wa p v D S r g u D := by rw [hwa]; exact HB.out.alloc _
  have HOA : Hid (Only (fun k => foot p v k ∨ S k) w wa) := by show Only _ _ _; rw [hwa]; exact Only.alloc _ _ _
  have hlt := HB.out.lt (k := n0) (by omega)
  have hna := block_lt hX
  have hc1 := cell_of (k := 1) hX
  have hc3 := cell_of (k := 3) hX
  simp only [List.getElem?_toArray, List.getElem?_cons_zero, List.getElem?_cons_succ] at hc1 hc3
  have HBA := hide hBa
  have HLT := hide hlt
  clear hX hBa hwa hn0 hlt
  refine (lent_any b _ wa (rd_in HRB.out HBA.out.own.below (Nat.le_refl _)) hbl).mono ?_
  rintro e wl ⟨rfl, hL, BL⟩
  have hgl := HBA.out.lt (k := wa.heap.size) (Nat.le_refl _)
  have hln := hL.lt
  have HOL := hide (HOA.out.trans (Only.below (S := fun _ => False) BL) (fun _ _ e => e.elim))
  have hws := HOA.out.size
  generalize hgw : wa.heap.size = gl at *
  have HWS := hide hws
  clear hws
  have hcl1 : wl.cell? ⟨n0, 1, none⟩ = some (.int .i64 f) := Below.keeps BL (by omega) hc1
  have hcl3 : wl.cell? ⟨n0, 3, none⟩ = some (.slice bo b.length bc) := Below.keeps BL (by omega) hc3
  have HBL := hide (HBA.out.grew (by rw [hgw]; exact BL))
  have HL := hide hL
  have HGL := hide hgl
  clear hL BL hgl hc1 hc3 hgw
  go_wp2
  go_region_held (fun w' => w'.cell? ⟨n0, 1, none⟩ = some (.int .i64 f) ∧ w'.cell? ⟨n0, 3, none⟩ = some (.slice bo b.length bc)) (go_keep) (first
    | (go_at_call 11; refine (append_any p v D f _ b _ HBL.out.drew.own.dk (Rd.drew HL.out.rd)).mono ?_; rintro e w1 ⟨rfl, v1, hm1⟩; have hd1 : w1.cell? ⟨n0, 1, none⟩ = some (.int .i64 f) := hm1.keeps hcl1 HLT.out.2.1; have hd3 : w1.cell? ⟨n0, 3, none⟩ = some (.slice bo b.length bc) := hm1.keeps hcl3 HLT.out.2.1; have HB1 := hide (HBL.out.drew.left hm1); have HO1 := hide (HOL.out.drew.trans hm1.only (fun _ _ e => .inl e)); have HL1 := hide (lent_only (w := wl.drew) HL.out hm1.only HGL.out.2.1); have HF1 := hide (hm1.off HGL.out.2.1 (by show gl < wl.heap.size; omega)); clear hm1)
    | (go_at_call 31; refine (rappend_any S r g u D f _ b _ HB1.out.ref (rd_in HRB.out HB1.out.own.below (Nat.le_refl _)) (HB1.out.argT HRB.out) hbl).mono ?_; rintro e w2 ⟨rfl, u2, hm2⟩; have he1 : w2.cell? ⟨n0, 1, none⟩ = some (.int .i64 f) := hm2.keeps HB1.out.ref hd1 HLT.out.2.2; have he3 : w2.cell? ⟨n0, 3, none⟩ = some (.slice bo b.length bc) := hm2.keeps HB1.out.ref hd3 HLT.out.2.2; have HB2 := hide (HB1.out.right hm2); have HO2 := hide (HO1.out.trans (hm2.onlyS HB1.out.ref) (fun _ _ e => .inr e)); have HL2 := hide (lent_ronly HL1.out hm2 HB1.out.ref HGL.out.2.2); have HG2 : Hid (¬ (S gl ∨ w1.heap.size ≤ gl ∧ gl < w2.heap.size)) := fun e => (by have := HL1.out.lt; rcases e with e | e; exact HGL.out.2.2 e; omega); clear hm2)
    | (go_at_call 32; refine (kept_any _ gl b _ _ HL2.out (rd_in HRB.out HB2.out.own.below (Nat.le_refl _)) hbl).mono ?_; rintro e w3 ⟨rfl, B3⟩; have hf1 : w3.cell? ⟨n0, 1, none⟩ = some (.int .i64 f) := Below.keeps B3 (Nat.le_refl _) he1; have hf3 : w3.cell? ⟨n0, 3, none⟩ = some (.slice bo b.length bc) := Below.keeps B3 (Nat.le_refl _) he3; have HB3 := hide (HB2.out.grew B3); have HO3 := hide (HO2.out.trans (Only.below (S := fun _ => False) B3) (fun _ _ e => e.elim)); have HL3 := hide (HL2.out.below B3); clear B3))
  go_wp2_with (go_at_call 18; refine (spoil_any _ _ _ _ _ HL3.out.own).mono ?_; rintro e w4 ⟨rfl, ho4⟩; have HB4 := hide (HB3.out.only ho4 (fun k hk => by have e2 : gl = k := Option.some.inj hk; rw [← e2]; exact ⟨HGL.out.1, HF1.out, HG2.out⟩)); have HO4 := hide (HO3.out.trans ho4 (fun i hi e => by have e2 : gl = i := Option.some.inj e; have := HWS.out; omega)); clear ho4)
  go_ret
  exact ⟨rfl, _, _, _, HB4.out, HO4.out⟩

/-- one call, whatever it is, to both -/
theorem do_any {W w : World} {p : Nat} {v : Nat → Value} {D : Dk} {S : Nat → Prop} {r g : Nat} {u : Nat → Value} (A : A6) {bo ko : Option Addr} {bc kc : Nat} (h : Both W w p v D S r g u D) (hb : Rd W (.slice bo A.b.length bc) A.b) (hk : RdI W (.slice ko A.keep.length kc) A.keep)
    (hbl : A.b.length ≤ 140737488351232) (hn : A.n ≤ 9223372036854775807) :
    Calls Try.prog 13 #[.pointer (some ⟨p, 0, none⟩), .pointer (some ⟨r, 0, none⟩), .agg #[.int .i64 A.kind, .int .i64 A.f, .int .i64 A.g, .slice bo A.b.length bc, .int .i64 A.n, .slice ko A.keep.length kc]] w fun e w' =>
      e = .returned (.bool true) ∧ ∃ v' S' u' D', Both W w' p v' D' S' r g u' D' ∧ Only (fun k => foot p v k ∨ S k) w w' := by
  obtain ⟨k, f, gg, n, b, ks⟩ := A
  simp only at hb hk hbl hn ⊢
  rcases (show k = 0 ∨ k = 1 ∨ k = 2 ∨ k = 3 ∨ k = 4 ∨ k = 5 ∨ k = 6 ∨ k = 7 ∨ k = 8 ∨ (k ≠ 0 ∧ k ≠ 1 ∧ k ≠ 2 ∧ k ≠ 3 ∧ k ≠ 4 ∧ k ≠ 5 ∧ k ≠ 6 ∧ k ≠ 7 ∧ k ≠ 8) by omega) with rfl | rfl | rfl | rfl | rfl | rfl | rfl | rfl | rfl | hx
  · exact (do_0 h hb hbl).mono fun e w' ⟨he, v', S', u', hB⟩ => ⟨he, v', S', u', _, hB⟩
  · exact (do_1 h hb hbl).mono fun e w' ⟨he, v', S', u', hB⟩ => ⟨he, v', S', u', _, hB⟩
  · exact (do_2 h hb hbl).mono fun e w' ⟨he, v', S', u', hB⟩ => ⟨he, v', S', u', _, hB⟩
  · exact (do_3 h).mono fun e w' ⟨he, v', S', u', hB⟩ => ⟨he, v', S', u', _, hB⟩
  · exact (do_4 h).mono fun e w' ⟨he, v', S', u', hB⟩ => ⟨he, v', S', u', _, hB⟩
  · exact (do_5 h).mono fun e w' ⟨he, v', S', u', hB⟩ => ⟨he, v', S', u', _, hB⟩
  · exact (do_6 h).mono fun e w' ⟨he, v', S', u', hB⟩ => ⟨he, v', S', u', _, hB⟩
  · exact (do_7 h hn).mono fun e w' ⟨he, v', S', u', hB⟩ => ⟨he, v', S', u', _, hB⟩
  · exact (do_8 h hk).mono fun e w' ⟨he, v', S', u', hB⟩ => ⟨he, v', S', u', _, hB⟩
  · exact (do_x h hx).mono fun e w' ⟨he, v', S', u', hB⟩ => ⟨he, v', S', u', _, hB⟩
end Go.Proofs.Ytgobnnciijlpaaa
