/- Some parts of the proof, one behind the other. -/
import Derived.Test.YtkpgfhapffijkaaDoorJdQ
/- Package jdl: weekdays as bits. -/
namespace Go.Proofs.YtkpgfhapffijkaaDoor
open Go.ChangeShapes Go.WideShapes Go.ChangeAt Go.RowKit Go.DsMem Go.DsLx Go.DsJd Go.DsMk
set_option linter.unusedVariables false
/-- the bits of weekdays -/
def bitN : List Int → Nat
  | [] => 0
  | a :: l => 2 ^ a.toNat ||| bitN l
theorem or_bits : ∀ (b : Fin 128) (k : Fin 7), bits BinOp.or IntKind.i64 (b.val : Int) (wrap64 (2 ^ k.val)) = ((b.val ||| 2 ^ k.val : Nat) : Int) ∧ (b.val ||| 2 ^ k.val) < 128 := by decide +kernel
theorem or_bit {b k : Nat} (hb : b < 128) (hk : k ≤ 6) : bits BinOp.or IntKind.i64 (b : Int) (wrap64 (2 ^ k)) = ((b ||| 2 ^ k : Nat) : Int) ∧ (b ||| 2 ^ k) < 128 := or_bits ⟨b, hb⟩ ⟨k, by omega⟩
theorem vn_nums {w W : World} {op : Int} {l : List Int} {g c : Nat} {nm : ByteArray} (hr : RdI W (.slice (some ⟨g, 0, none⟩) l.length c) l) (hl : l.length ≤ 100000) (hg : w.heap.size ≤ g) (hg2 : g < W.heap.size) : VN w (.mk op l [] nm) (NVal.val ⟨op, some ⟨g, 0, none⟩, l.length, c, none, 0, 0, nm⟩) W :=
  ⟨_, rfl, .mk op l [] nm (some ⟨g, 0, none⟩) c none 0 0 (fun _ => ⟨0, none, 0, 0, none, 0, 0, ⟨#[]⟩⟩) hr (fun a e => by cases e; exact ⟨hg, hg2⟩) (by omega) (by simp) (by simp) (fun h => by simp at h) (fun h => by simp at h) (fun j hj => by simp at hj) (fun j hj => by simp at hj)⟩
set_option maxHeartbeats 4000000 in
set_option maxRecDepth 20000 in
theorem weekNode_any {w0 w : World} {l : List Int} {v : Value} (h : VL w0 l v w) (hl : l.length ≤ 8192) (hd : ∀ a ∈ l, 0 ≤ a ∧ a ≤ 6) : Calls Tryd.prog 79 #[v] w fun e w' => ∃ v', e = .returned v' ∧ VN w (.mk 1 [(bitN l : Int)] [] ⟨#[]⟩) v' w' ∧ Below w.heap.size w w' := by
  obtain ⟨uo, uc, rfl, hrow⟩ := h
  have HROW := hide hrow
  have HD := hide hd
  clear hd
  go_enter Tryd.func79, Tryd.ntmps79
  go_wp2
  go_loopw [3, 8] (fun tb ti wr => ∃ (i b : Nat), i ≤ l.length ∧ tb = .int .i64 b ∧ b < 128 ∧ ti = .int .i64 i ∧ wr = w.alloc (.cells #[.int .i64 0, .slice none 0 0, .slice none 0 0, .string ⟨#[]⟩] 41) ∧ b ||| bitN (l.drop i) = bitN l) (fun _ ti _ => l.length - (intOf ti).toNat)
  case atStart => exact ⟨0, 0, Nat.zero_le _, rfl, by decide, rfl, rfl, by simp⟩
  case round =>
    obtain ⟨i, b, hi, rfl, hb, rfl, rfl, hbit⟩ := hrel
    by_cases hlt : i < l.length
    · obtain ⟨a, ha⟩ : ∃ a, l[i]? = some a := ⟨_, List.getElem?_eq_getElem hlt⟩
      have hda := HD.out a (List.mem_of_getElem? ha)
      have hg : ∃ g, uo = some ⟨g, 0, none⟩ ∧ l.length ≤ uc := by
        rcases HROW.out.2 with ⟨_, h0⟩ | ⟨g, cap, cur, e, _, hg, hc, _⟩
        · omega
        · simp only [Value.slice.injEq] at e
          obtain ⟨rfl, -, rfl⟩ := e
          exact ⟨g, rfl, hc⟩
      obtain ⟨g, rfl, hc⟩ := hg
      have c0 : w.cell? ⟨g, i, none⟩ = some (.int .i64 a) := by
        have := HROW.out.cells (g := g) rfl i (.int .i64 a) (by rw [List.getElem?_map, ha]; rfl)
        rw [add_mk, Nat.zero_add] at this
        exact this
      have x0 := fun ob : Obj => Below.keeps (below_new4 ob) (Nat.le_refl _) c0
      obtain ⟨k, rfl⟩ : ∃ k : Nat, a = (k : Int) := ⟨a.toNat, by omega⟩
      clear c0
      obtain ⟨ob1, ob2⟩ := or_bit hb (show k ≤ 6 by omega)
      have OB1 := hide ob1
      have hdr : l.drop i = (k : Int) :: l.drop (i + 1) := by
        obtain ⟨h1, h2⟩ := List.getElem?_eq_some_iff.1 ha
        rw [List.drop_eq_getElem_cons h1, h2]
      have HBIT : Hid ((b ||| 2 ^ k) ||| bitN (l.drop (i + 1)) = bitN l) := by
        refine hide ?_
        rw [← hbit, hdr, bitN, Nat.or_assoc]; simp
      clear ob1 hbit hdr
      go_wp2
      go_roundw
      case rel => exact ⟨i + 1, b ||| 2 ^ k, by omega, by rw [OB1.out], ob2, rfl, trivial, HBIT.out⟩
      case measure => simp [intOf]; omega
    · obtain rfl : i = l.length := by omega
      have hbl : b = bitN l := by rw [← hbit]; simp [bitN]
      have HBL := hide hbl
      clear hbit hbl
      go_wp2
      refine bodyPost_ret (v := NVal.val ⟨1, some ⟨w.heap.size + 1, 0, none⟩, 1, 1, none, 0, 0, ⟨#[]⟩⟩) (by simp [results, Tryd.results79, go_sem, NVal.val, ndV]) rfl ?_
      refine ⟨_, rfl, ?_, ((Below.refl _ _).alloc (Nat.le_refl _) _).alloc (by simp) _⟩
      rw [← HBL.out]
      have hnew := heap_alloc_new (w.alloc (.cells #[.int .i64 1, .slice (some ⟨w.heap.size + 1, 0, none⟩) 1 1, .slice none 0 0, .string ⟨#[]⟩] 41)) (.cells #[.int .i64 (b : Int)] 2)
      have hz : (w.alloc (.cells #[.int .i64 1, .slice (some ⟨w.heap.size + 1, 0, none⟩) 1 1, .slice none 0 0, .string ⟨#[]⟩] 41)).heap.size = w.heap.size + 1 := by simp
      rw [hz] at hnew
      refine vn_nums (l := [(b : Int)]) ⟨_, _, rfl, Nat.le_refl _, (fun h => by cases h), fun a e j u hu => ?_⟩ (by simp) (by omega) (by simp)
      simp only [Option.some.injEq] at e
      subst e
      cases j with
      | zero =>
        simp at hu
        subst hu
        rw [add_mk, cell_of hnew]; rfl
      | succ j => simp at hu
end Go.Proofs.YtkpgfhapffijkaaDoor

/- Package jdl: workdays. -/
namespace Go.DsJd
open Go.DsLx Go.DsMk
def workP (E : Int) (ws : List Tk) : Except Fl (Nd × List Tk) :=
  match thenP E ⟨#[44]⟩ (intP E ws) with
  | .error f => .error f
  | .ok (k, r) => match nameP E r with
    | .error f => .error f
    | .ok (n, r2) => .ok (.mk 5 [k] [] n, r2)
end Go.DsJd
namespace Go.Proofs.YtkpgfhapffijkaaDoor
open Go.ChangeShapes Go.WideShapes Go.ChangeAt Go.RowKit Go.DsMem Go.DsLx Go.DsJd Go.DsMk
set_option linter.unusedVariables false
theorem rdI_one {W : World} {g : Nat} {k : Int} (h : W.heap[g]? = some (.cells #[.int .i64 k] 2 (0, 0))) : RdI W (.slice (some ⟨g, 0, none⟩) 1 1) [k] := by
  refine ⟨_, _, rfl, Nat.le_refl _, (fun h => by cases h), fun a e j u hu => ?_⟩
  simp only [Option.some.injEq] at e
  subst e
  cases j with
  | zero =>
    simp at hu
    subst hu
    rw [add_mk, cell_of h]; rfl
  | succ j => simp at hu
set_option maxHeartbeats 4000000 in
set_option maxRecDepth 20000 in
/-- (*jdl.reader).work -/
theorem work_any {w : World} {R : Nat} {E d : Int} {B N : Nat} {ws : List Tk} (h : Rdr w R E d B N ws) (hn : ∀ t ∈ ws, 0 ≤ t.n ∧ t.n ≤ 999999999) : Calls Tryd.prog 85 #[.pointer (some ⟨R, 0, none⟩)] w (PE R E d B N (workP E ws) VN w) := by
  obtain ⟨hN1, hN2⟩ := h.n
  have HI : Hid (∀ o, _) := hide (fun o => integer_any (h.below (below_new4 o)) hn)
  have HM := hide (fun (w : World) (r : List Tk) (h : Rdr w R E d B N r) => must_any ⟨#[44]⟩ h (by decide))
  have HNM := hide (fun (w : World) (r : List Tk) (h : Rdr w R E d B N r) => name_any h)
  have HRES : Hid (ResN (w.alloc (.cells #[.int .i64 0, .slice none 0 0, .slice none 0 0, .string ⟨#[]⟩] 41)) w.heap.size) := heap_alloc_new w _
  have HOA : Hid (Only (· = R) w (w.alloc (.cells #[.int .i64 0, .slice none 0 0, .slice none 0 0, .string ⟨#[]⟩] 41))) := Only.alloc _ _ _
  have hzA : (w.alloc (.cells #[.int .i64 0, .slice none 0 0, .slice none 0 0, .string ⟨#[]⟩] 41)).heap.size = w.heap.size + 1 := by simp
  clear h hn
  unfold workP
  generalize intP E ws = q at *
  cases q with
  | error f =>
    have e : thenP E ⟨#[44]⟩ (.error f : Except Fl (Int × List Tk)) = .error f := rfl
    rw [e]
    unfold PE Ends at HI
    unfold PE Ends
    simp only at HI ⊢
    go_enter Tryd.func85, Tryd.ntmps85
    go_wp2_with fail
    refine (HI.out _).mono ?_
    rintro e w1 ⟨rfl, ho⟩
    have HO := hide (HOA.out.trans ho (fun _ _ h => h))
    clear ho
    go_wp2
    exact ⟨rfl, rfl, HO.out⟩
  | ok p =>
    obtain ⟨k, r⟩ := p
    have e : thenP E ⟨#[44]⟩ (.ok (k, r)) = (match mustP E ⟨#[44]⟩ r with | .error f => .error f | .ok r2 => .ok (k, r2)) := rfl
    rw [e]
    have HM2 := hide (fun (w : World) h => HM.out w r h)
    clear HM e
    unfold PE Ends VI at HI
    simp only at HI
    generalize mustP E ⟨#[44]⟩ r = qm at *
    cases qm with
    | error f =>
      unfold Ends at HM2
      unfold PE Ends
      simp only at HM2 ⊢
      go_enter Tryd.func85, Tryd.ntmps85
      go_wp2_with fail
      refine (HI.out _).mono ?_
      rintro e w1 ⟨v, rfl, rfl, hr, ho⟩
      have HO := hide (HOA.out.trans ho (fun _ _ h => h))
      have HR := hide hr
      clear ho hr
      go_wp2_with fail
      refine (HM2.out _ HR.out).mono ?_
      rintro e w2 ⟨rfl, ho2⟩
      have HO2 := hide (HO.out.trans ho2 (fun _ _ h => h))
      clear ho2
      go_wp2
      exact ⟨rfl, rfl, HO2.out⟩
    | ok r2 =>
      unfold Ends at HM2
      simp only at HM2 ⊢
      have HN3 := hide (fun (w : World) h => HNM.out w r2 h)
      clear HNM
      generalize nameP E r2 = qn at *
      go_enter Tryd.func85, Tryd.ntmps85
      go_wp2_with fail
      refine (HI.out _).mono ?_
      rintro e w1 ⟨v, rfl, rfl, hr, ho⟩
      have HO := hide (HOA.out.trans ho (fun _ _ h => h))
      have hs1 := ho.size
      have HR := hide hr
      have HRES1 := hide (HRES.out.only ho (by omega))
      clear ho hr
      go_wp2_with fail
      refine (HM2.out _ HR.out).mono ?_
      rintro e w2 ⟨rfl, hr2, ho2⟩
      have HO2 := hide (HO.out.trans ho2 (fun _ _ h => h))
      have hs2 := ho2.size
      have HR2 := hide hr2
      have HRES2 := hide (HRES1.out.only ho2 (by omega))
      clear ho2 hr2
      go_wp2_with fail
      refine (HN3.out _ (HR2.out.below (below_new4 _))).mono ?_
      intro e w3 hz
      cases qn with
      | error f =>
        obtain ⟨rfl, ho3⟩ := hz
        have HO3 := hide ((HO2.out.trans (Only.alloc _ _ _) (fun _ _ h => h)).trans ho3 (fun _ _ h => h))
        clear ho3
        go_wp2
        exact ⟨rfl, rfl, HO3.out⟩
      | ok p =>
        obtain ⟨nm, r3⟩ := p
        obtain ⟨v, rfl, hv, hr3, ho3⟩ := hz
        unfold VS at hv
        subst hv
        have HNUM : Hid (w3.heap[w2.heap.size]? = some (.cells #[.int .i64 k] 2 (0, 0))) := heap_only (heap_alloc_new w2 _) ho3 (by omega)
        have HRES3 : Hid (ResN w3 w.heap.size) := heap_only (heap_keep' HRES2.out) ho3 (by omega)
        obtain ⟨⟨q0, q1, q2, q3⟩, f0, f1, f2, f3⟩ := HRES3.out.all
        have hs3 := ho3.size
        have hzB : (w2.alloc (.cells #[.int .i64 k] 2)).heap.size = w2.heap.size + 1 := by simp
        have HR3 := hide hr3
        have HO3 := hide ((HO2.out.trans (Only.alloc _ _ _) (fun _ _ h => h)).trans ho3 (fun _ _ h => h))
        clear ho3 hr3
        go_wp2
        refine bodyPost_ret (v := NVal.val ⟨5, some ⟨w2.heap.size, 0, none⟩, 1, 1, none, 0, 0, nm⟩) (by simp [results, Tryd.results85, go_sem, q0, q1, q2, q3, NVal.val, ndV]) rfl ?_
        have hW := only4 w3 w.heap.size (.int .i64 5) (.slice (some ⟨w2.heap.size, 0, none⟩) 1 1) (.slice none 0 0) (.string nm)
        refine ⟨_, rfl, vn_nums (l := [k]) (rdI_one ?_) (by simp) (by omega) (Nat.lt_of_lt_of_le (by omega) hW.size), ?_, ?_⟩
        · rw [hW.block w2.heap.size (by omega) (by omega)]; exact HNUM.out
        · exact HR3.out.only (((((Below.refl N _).setCell hN1 _).setCell hN1 _).setCell hN1 _).setCell hN1 _)
        · exact only_set4 HO3.out (Nat.le_refl _) _ _ _ _
end Go.Proofs.YtkpgfhapffijkaaDoor

