/- Some parts of the proof, one behind the other. -/
import Derived.Test.YthbfjkdklnffjaaDoorCcE
/- Package cal: nodes as trees, where they lie; canBe. -/
namespace Go.DsMk
/-- a node -/
inductive Nd where
  | mk (op : Int) (ns : List Int) (kids : List Nd) (name : ByteArray)
def Nd.op : Nd → Int | .mk o _ _ _ => o
def Nd.ns : Nd → List Int | .mk _ n _ _ => n
def Nd.kids : Nd → List Nd | .mk _ _ k _ => k
def Nd.name : Nd → ByteArray | .mk _ _ _ n => n
end Go.DsMk
namespace Go.Proofs.YthbfjkdklnffjaaDoor
open Go.ChangeShapes Go.WideShapes Go.ChangeAt Go.RowKit Go.DsMem Go.DsMk
set_option linter.unusedVariables false

/-- a node's value -/
structure NVal where
  op : Int
  no : Option Addr
  nl : Nat
  nc : Nat
  ko : Option Addr
  kl : Nat
  kc : Nat
  nm : ByteArray
def NVal.val (v : NVal) : Value := ndV v.op v.no v.nl v.nc v.ko v.kl v.kc v.nm
/-- the node's value lies at this place -/
structure NIn (w : World) (g o : Nat) (v : NVal) : Prop where
  c0 : w.cell? ⟨g, o, none⟩ = some (.int .i64 v.op)
  c1 : w.cell? ⟨g, o + 1, none⟩ = some (.slice v.no v.nl v.nc)
  c2 : w.cell? ⟨g, o + 2, none⟩ = some (.slice v.ko v.kl v.kc)
  c3 : w.cell? ⟨g, o + 3, none⟩ = some (.string v.nm)
theorem NIn.mono {w w' : World} {g o : Nat} {v : NVal} (h : NIn w g o v) (hc : ∀ a u, w.cell? a = some u → w'.cell? a = some u) : NIn w' g o v := ⟨hc _ _ h.c0, hc _ _ h.c1, hc _ _ h.c2, hc _ _ h.c3⟩
/-- the value v reads as the node t -/
inductive NdAt (w : World) : NVal → Nd → Prop
  | mk (op : Int) (ns : List Int) (kids : List Nd) (nm : ByteArray) (no : Option Addr) (nc : Nat) (ko : Option Addr) (kc : Nat) (g o : Nat) (K : Nat → NVal)
      (hn : RdI w (.slice no ns.length nc) ns) (hnl : ns.length ≤ 17592186043904) (hkl : kids.length ≤ 17592186043904) (hkc : kids.length ≤ kc) (hko : 0 < kids.length → ko = some ⟨g, o, none⟩)
      (hc : ∀ j, j < kids.length → NIn w g (o + j * 4) (K j)) (hk : ∀ j (hj : j < kids.length), NdAt w (K j) kids[j]) :
      NdAt w ⟨op, no, ns.length, nc, ko, kids.length, kc, nm⟩ (.mk op ns kids nm)
theorem NdAt.mono {w w' : World} (hc : ∀ a u, w.cell? a = some u → w'.cell? a = some u) {v : NVal} {t : Nd} (h : NdAt w v t) : NdAt w' v t := by
  induction h with
  | mk op ns kids nm no nc ko kc g o K hn hnl hkl hkc hko hcs _ ih => exact .mk op ns kids nm no nc ko kc g o K (hn.mono hc) hnl hkl hkc hko (fun j hj => (hcs j hj).mono hc) ih
theorem NdAt.grew {w w' : World} {v : NVal} {t : Nd} (h : NdAt w v t) (hb : Below w.heap.size w w') : NdAt w' v t := h.mono fun _ _ hc => Below.keeps hb (Nat.le_refl _) hc

/-- whether a node can be, at most f nodes deep -/
def canB : Nat → Nd → Bool
  | 0, _ => false
  | f + 1, .mk op ns kids nm => shapeB op ns.length kids.length nm && numsB op ns && kids.all (canB f)

set_option maxHeartbeats 4000000 in
set_option maxRecDepth 20000 in
theorem canBe0 {W w : World} (h : Gc W w) (v : NVal) : Calls Tryd.prog 31 #[v.val, .int .i64 17] w fun e w' => e = .returned (.bool false) ∧ Gc W w' := by
  have HG := hide h
  clear h
  unfold NVal.val ndV
  go_enter Tryd.func31, Tryd.ntmps31
  go_wp2
  go_ret
  exact ⟨rfl, HG.out.alloc _⟩

theorem NBox.all {w : World} {p : Nat} {op : Int} {no : Option Addr} {nl nc : Nat} {ko : Option Addr} {kl kc : Nat} {nm : ByteArray} (h : NBox w p op no nl nc ko kl kc nm) {w' : World} (hb : Below w.heap.size w w') :
    w'.cell? ⟨p, 0, none⟩ = some (.int .i64 op) ∧ w'.cell? ⟨p, 1, none⟩ = some (.slice no nl nc) ∧ w'.cell? ⟨p, 2, none⟩ = some (.slice ko kl kc) ∧ w'.cell? ⟨p, 3, none⟩ = some (.string nm) := by
  have := h.below hb; exact ⟨this.c0, this.c1, this.c2, this.c3⟩

theorem shape_len {op : Int} {nl kl : Nat} {nm : ByteArray} (h : shapeB op nl kl nm = true) : nl ≤ 64 ∧ kl ≤ 8 ∧ (op = 4 ∨ op = 6 → nl = 2) := by
  unfold shapeB at h
  simp only [Bool.and_eq_true, decide_eq_true_eq] at h
  obtain ⟨⟨h1, h2⟩, ⟨⟨⟨h3, h4⟩, h5⟩, h6⟩, _⟩ := h
  have hc : op = 1 ∨ op = 2 ∨ op = 3 ∨ op = 4 ∨ op = 5 ∨ op = 6 ∨ op = 7 ∨ op = 8 ∨ op = 9 ∨ op = 10 := by omega
  rcases hc with rfl | rfl | rfl | rfl | rfl | rfl | rfl | rfl | rfl | rfl <;> simp [shpN] at h3 h4 h5 h6 <;> omega

set_option maxHeartbeats 8000000 in
set_option maxRecDepth 20000 in
theorem canBe_step (f : Nat) (hf : f ≤ 15) (ih : ∀ (t : Nd) (v : NVal) (W w : World), Gc W w → NdAt w v t → Calls Tryd.prog 31 #[v.val, .int .i64 (17 - f)] w fun e w' => e = .returned (.bool (canB f t)) ∧ Gc W w')
    (t : Nd) (v : NVal) (W w : World) (h : Gc W w) (hv : NdAt w v t) : Calls Tryd.prog 31 #[v.val, .int .i64 (17 - (f + 1 : Nat))] w fun e w' => e = .returned (.bool (canB (f + 1) t)) ∧ Gc W w' := by
  have HIH := hide ih
  have HG := hide h
  clear ih h
  obtain ⟨op, ns, kids, nm, no, nc, ko, kc, g, o, K, hn, hnl, hkl, hkc, hko, hcs, hks⟩ := hv
  have HN := hide hn
  have HCS := hide hcs
  have HKS := hide hks
  have HKO := hide hko
  clear hn hcs hks hko
  obtain ⟨dp, hdp⟩ : ∃ dp : Int, (17 : Int) - ((f + 1 : Nat) : Int) = dp := ⟨_, rfl⟩
  have hdp1 : 1 ≤ dp := by omega
  have hdp2 : dp ≤ 16 := by omega
  have HDP : Hid (dp + 1 = 17 - (f : Int)) := by show _ = _; omega
  rw [hdp]
  clear hdp
  obtain ⟨bs, hbs⟩ : ∃ b, shapeB op ns.length kids.length nm = b := ⟨_, rfl⟩
  have HBS := hide hbs
  have HR0 : Hid (canB (f + 1) (.mk op ns kids nm) = (bs && numsB op ns && kids.all (canB f))) := by show _ = _; unfold canB; rw [hbs]
  clear hbs
  unfold NVal.val
  simp only
  unfold ndV
  go_enter Tryd.func31, Tryd.ntmps31
  go_wp2_with fail
  obtain ⟨wA, hwA⟩ : ∃ wA, wA = w.alloc (.cells #[.int .i64 op, .slice no ns.length nc, .slice ko kids.length kc, .string nm] 31) := ⟨_, rfl⟩
  have hbx : NBox wA w.heap.size op no ns.length nc ko kids.length kc nm := by rw [hwA]; exact NBox.new _ _ _ _ _ _ _ _ _
  have HBL : Hid (Below w.heap.size w wA) := by rw [hwA]; exact (Below.refl _ _).alloc (Nat.le_refl _) _
  have HGA : Hid (Gc wA wA) := (HG.out.more HBL.out).here
  rw [← hwA]
  have HBX := hide hbx
  clear hwA hbx
  generalize w.heap.size = p2 at HBX ⊢
  refine (Gc.shape HGA.out op no ns.length nc ko kids.length kc nm (by omega) (by omega)).mono ?_
  rw [HBS.out]
  rintro e w1 ⟨rfl, g1⟩
  have HG1 := hide g1
  obtain ⟨c0, c1, c2, c3⟩ := HBX.out.all g1.below
  clear g1
  cases bs
  · have HR : Hid (canB (f + 1) (.mk op ns kids nm) = false) := by show _ = _; rw [HR0.out]; rfl
    go_wp2
    go_ret
    exact ⟨ret_bool (by rw [HR.out]), (HG.out.more HBL.out).more HG1.out.below⟩
  · obtain ⟨hn64, hk8, hn2⟩ := shape_len HBS.out
    have HN2 := hide hn2
    clear hn2
    obtain ⟨bn, hbn⟩ : ∃ b, numsB op ns = b := ⟨_, rfl⟩
    have HBN := hide hbn
    clear hbn
    go_wp2_with fail
    refine (Gc.numbers HG1.out op ns no nc ko kids.length kc nm ((HN.out.below HBL.out).below HG1.out.below) (by omega) HN2.out).mono ?_
    rw [HBN.out]
    rintro e w2 ⟨rfl, g2⟩
    have HG2 := hide g2
    clear c0 c1 c2 c3
    obtain ⟨c0, c1, c2, c3⟩ := HBX.out.all g2.below
    clear g2
    cases bn
    · have HR : Hid (canB (f + 1) (.mk op ns kids nm) = false) := by show _ = _; rw [HR0.out, HBN.out]; rfl
      go_wp2
      go_ret
      exact ⟨ret_bool (by rw [HR.out]), (HG.out.more HBL.out).more HG2.out.below⟩
    · have HR : Hid (canB (f + 1) (.mk op ns kids nm) = kids.all (canB f)) := by show _ = _; rw [HR0.out, HBN.out]; simp
      go_wp2
      go_loopw [22] (fun t wr => ∃ i : Nat, i ≤ kids.length ∧ t = .int .i64 i ∧ (kids.take i).all (canB f) = true ∧ Gc wA wr) (fun t _ => kids.length - (intOf t).toNat)
      case atStart => exact ⟨0, Nat.zero_le _, rfl, by simp, HG2.out⟩
      case round =>
        obtain ⟨i, hi, rfl, hall, hg⟩ := hrel
        have HA := hide hall
        have HGr := hide hg
        clear hall hg
        by_cases hlt : i < kids.length
        · obtain rfl := HKO.out (by omega)
          have HBW : Hid (∀ a u, w.cell? a = some u → wr.cell? a = some u) := fun a u hc => Below.keeps (HBL.out.trans (HGr.out.below.mono HBL.out.size)) (Nat.le_refl _) hc
          have hin := (HCS.out i hlt).mono HBW.out
          obtain ⟨k0, k1, k2, k3⟩ := hin
          have HM : Hid (kids[i] ∈ kids) := List.getElem_mem hlt
          have HTK : Hid (kids.take (i + 1) = kids.take i ++ [kids[i]]) := List.take_succ_eq_append_getElem hlt
          have HKD := hide ((HKS.out i hlt).mono HBW.out)
          generalize kids[i] = kt at *
          generalize K i = kv at *
          obtain ⟨b, hb⟩ : ∃ b, canB f kt = b := ⟨_, rfl⟩
          have HB := hide hb
          clear hb
          have HCALL := hide (HIH.out kt kv wA (wr.alloc (.cells #[.int .i64 kv.op, .slice kv.no kv.nl kv.nc, .slice kv.ko kv.kl kv.kc, .string kv.nm] 31)) (HGr.out.alloc _) (HKD.out.grew ((Below.refl _ _).alloc (Nat.le_refl _) _)))
          unfold NVal.val ndV at HCALL
          rw [← HDP.out, HB.out] at HCALL
          go_wp2_with fail
          refine HCALL.out.mono ?_
          rintro e w3 ⟨rfl, g3⟩
          have HG3 := hide g3
          clear g3
          cases b
          · have HE : Hid (kids.all (canB f) = false) := by
              show _ = _
              rw [Bool.eq_false_iff]; intro hc
              have := List.all_eq_true.1 hc kt HM.out
              rw [HB.out] at this; cases this
            go_wp2
            go_ret
            exact ⟨ret_bool (by rw [HR.out, HE.out]), (HG.out.more HBL.out).more HG3.out.below⟩
          · have HS : Hid ((kids.take (i + 1)).all (canB f) = true) := by show _ = _; rw [HTK.out, List.all_append, HA.out]; simp [HB.out]
            go_wp2
            go_roundw
            case rel => exact ⟨i + 1, by omega, by go_num, HS.out, HG3.out⟩
            case measure => simp [intOf]; omega
        · have HE : Hid (kids.all (canB f) = true) := by have := HA.out; rwa [List.take_of_length_le (by omega)] at this
          go_wp2
          go_ret
          exact ⟨ret_bool (by rw [HR.out, HE.out]), (HG.out.more HBL.out).more HGr.out.below⟩
/-- cal.canBe -/
theorem canBe_any : ∀ (f : Nat), f ≤ 16 → ∀ (t : Nd) (v : NVal) (W w : World), Gc W w → NdAt w v t → Calls Tryd.prog 31 #[v.val, .int .i64 (17 - f)] w fun e w' => e = .returned (.bool (canB f t)) ∧ Gc W w'
  | 0, _, t, v, W, w, h, _ => by rw [show canB 0 t = false by cases t; rfl]; exact canBe0 h v
  | f + 1, hf, t, v, W, w, h, hv => canBe_step f (by omega) (canBe_any f (by omega)) t v W w h hv
def rightN (t : Nd) : Bool := canB 16 t
set_option maxHeartbeats 1000000 in
/-- cal.Right -/
theorem Gc.right {W w : World} (h : Gc W w) (t : Nd) (v : NVal) (hv : NdAt w v t) : Calls Tryd.prog 22 #[v.val] w fun e w' => e = .returned (.bool (rightN t)) ∧ Gc W w' := by
  have HC := hide (canBe_any 16 (by decide) t v W (w.alloc (.cells #[.int .i64 v.op, .slice v.no v.nl v.nc, .slice v.ko v.kl v.kc, .string v.nm] 31)) (h.alloc _) (hv.grew ((Below.refl _ _).alloc (Nat.le_refl _) _)))
  clear h hv
  unfold NVal.val ndV at *
  go_enter Tryd.func22, Tryd.ntmps22
  go_wp2_with fail
  refine HC.out.mono ?_
  rintro e w3 ⟨rfl, g3⟩
  have HG3 := hide g3
  clear g3
  go_wp2
  go_ret
  exact ⟨rfl, HG3.out⟩
end Go.Proofs.YthbfjkdklnffjaaDoor

/- Package cal: calendars, where they lie; Find. -/
namespace Go.Proofs.YthbfjkdklnffjaaDoor
open Go.ChangeShapes Go.WideShapes Go.ChangeAt Go.RowKit Go.DsMem Go.DsMk
set_option linter.unusedVariables false

/-- the slice (co, its length, cc) is these calendars -/
structure CalsAt (w : World) (co : Option Addr) (cc : Nat) (cs : List (ByteArray × Nd)) (g o : Nat) (V : Nat → NVal) : Prop where
  len : cs.length ≤ 17592186043904
  cap : cs.length ≤ cc
  at_ : 0 < cs.length → co = some ⟨g, o, none⟩
  name : ∀ j (hj : j < cs.length), w.cell? ⟨g, o + j * 5, none⟩ = some (.string cs[j].1)
  cell : ∀ j, j < cs.length → NIn w g (o + j * 5 + 1) (V j)
  node : ∀ j (hj : j < cs.length), NdAt w (V j) cs[j].2
theorem CalsAt.grew {w w' : World} {co : Option Addr} {cc : Nat} {cs : List (ByteArray × Nd)} {g o : Nat} {V : Nat → NVal} (h : CalsAt w co cc cs g o V) (hb : Below w.heap.size w w') : CalsAt w' co cc cs g o V :=
  ⟨h.len, h.cap, h.at_, fun j hj => Below.keeps hb (Nat.le_refl _) (h.name j hj), fun j hj => (h.cell j hj).mono fun _ _ hc => Below.keeps hb (Nat.le_refl _) hc, fun j hj => (h.node j hj).grew hb⟩

/-- the place of the first calendar with a name; their number, if there is none -/
def fiC (cs : List (ByteArray × Nd)) (nm : ByteArray) : Nat := cs.findIdx fun c => c.1.toList == nm.toList
def fiV (cs : List (ByteArray × Nd)) (nm : ByteArray) : Int := if fiC cs nm < cs.length then (fiC cs nm : Int) else -1
theorem fiC_le (cs : List (ByteArray × Nd)) (nm : ByteArray) : fiC cs nm ≤ cs.length := List.findIdx_le_length
theorem fiV_at {cs : List (ByteArray × Nd)} {nm : ByteArray} {i : Nat} (hi : i < cs.length) (h1 : (cs[i].1.toList == nm.toList) = true) (h2 : ∀ j (hj : j < cs.length), j < i → (cs[j].1.toList == nm.toList) = false) : fiV cs nm = i := by
  have : fiC cs nm = i := (List.findIdx_eq hi).2 ⟨h1, fun j hj => h2 j (by omega) hj⟩
  unfold fiV; rw [this, if_pos hi]
theorem fiV_none {cs : List (ByteArray × Nd)} {nm : ByteArray} (h2 : ∀ j (hj : j < cs.length), (cs[j].1.toList == nm.toList) = false) : fiV cs nm = -1 := by
  have : fiC cs nm = cs.length := by
    unfold fiC; rw [List.findIdx_eq_length]
    intro x hx
    obtain ⟨j, hj, rfl⟩ := List.getElem_of_mem hx
    exact h2 j hj
  unfold fiV; rw [this, if_neg (by omega)]

set_option maxHeartbeats 4000000 in
set_option maxRecDepth 20000 in
/-- cal.Find -/
theorem Gc.find {W w : World} (h : Gc W w) (co : Option Addr) (cc : Nat) (cs : List (ByteArray × Nd)) (g o : Nat) (V : Nat → NVal) (hc : CalsAt w co cc cs g o V) (nm : ByteArray) :
    Calls Tryd.prog 49 #[.slice co cs.length cc, .string nm] w fun e w' => e = .returned (.int .i64 (fiV cs nm)) ∧ Gc W w' := by
  have HG := hide h
  have HC := hide hc
  have hlen := hc.len
  clear h hc
  go_enter Tryd.func49, Tryd.ntmps49
  go_wp2
  go_loopw [9] (fun t wr => ∃ i : Nat, i ≤ cs.length ∧ t = .int .i64 i ∧ (∀ j (hj : j < cs.length), j < i → (cs[j].1.toList == nm.toList) = false) ∧ Gc w wr) (fun t _ => cs.length - (intOf t).toNat)
  case atStart => exact ⟨0, Nat.zero_le _, rfl, fun j _ hj => by omega, HG.out.here⟩
  case round =>
    obtain ⟨i, hi, rfl, hall, hg⟩ := hrel
    have HA := hide hall
    have HGr := hide hg
    clear hall hg
    by_cases hlt : i < cs.length
    · obtain rfl := HC.out.at_ (by omega)
      have HCr := hide (HC.out.grew HGr.out.below)
      have k := HCr.out.name i hlt
      obtain ⟨k0, k1, k2, k3⟩ := HCr.out.cell i hlt
      generalize V i = kv at *
      obtain ⟨b, hb⟩ : ∃ b, (cs[i].1.toList == nm.toList) = b := ⟨_, rfl⟩
      have HB := hide hb
      have HS : Hid ((cs[i].1.toList == nm.toList) = false → ∀ j (hj : j < cs.length), j < i + 1 → (cs[j].1.toList == nm.toList) = false) := fun hq j hj hji => by
        by_cases e : j = i
        · subst e; exact hq
        · exact HA.out j hj (by omega)
      have HE : Hid ((cs[i].1.toList == nm.toList) = true → fiV cs nm = i) := fun hq => fiV_at hlt hq HA.out
      generalize cs[i].1 = cn at *
      cases b
      · go_wp2
        go_roundw
        case rel => exact ⟨i + 1, by omega, by go_num, HS.out HB.out, HGr.out.alloc _⟩
        case measure => simp [intOf]; omega
      · go_wp2
        go_ret
        exact ⟨ret_int (by rw [HE.out HB.out]), (HG.out.more HGr.out.below).alloc _⟩
    · have HE : Hid (fiV cs nm = -1) := fiV_none fun j hj => HA.out j hj (by omega)
      go_wp2
      go_ret
      exact ⟨ret_int (by rw [HE.out]), HG.out.more HGr.out.below⟩
end Go.Proofs.YthbfjkdklnffjaaDoor

/- Package cal: what is met of a node, as a plain function; the walk of follow. -/
namespace Go.Proofs.YthbfjkdklnffjaaDoor
open Go.ChangeShapes Go.WideShapes Go.ChangeAt Go.RowKit Go.DsMem Go.DsMk
set_option linter.unusedVariables false

/-- the calendar with a name, if there is one -/
def calOf (cs : List (ByteArray × Nd)) (nm : ByteArray) : Option Nd := (cs[fiC cs nm]?).map Prod.snd
/-- the first error that is met, and how many nodes are met -/
def meetF (cs : List (ByteArray × Nd)) : Nat → Nd → Nat → Bool → Nat → Int × Nat
  | 0, _, _, _, met => (23, met + 1)
  | f + 1, .mk op ns kids nm, refs, inw, met =>
    if 256 < met + 1 ∨ (op = 5 ∧ inw = true) then (23, met + 1)
    else if op = 10 ∨ op = 5 then
      match calOf cs nm with
      | none => (21, met + 1)
      | some t => if refs = 24 then (23, met + 1) else meetF cs f t (refs + 1) (inw || op == 5) (met + 1)
    else kids.foldl (fun st k => if st.1 ≠ 0 then st else meetF cs f k refs inw st.2) (0, met + 1)

theorem foldl_keep {α : Type} (P : α → α → Prop) (hr : ∀ a, P a a) (ht : ∀ a b c, P a b → P b c → P a c) (g : α → Nd → α) (l : List Nd) (hs : ∀ a k, k ∈ l → P a (g a k)) (a : α) : P a (l.foldl g a) := by
  induction l generalizing a with
  | nil => exact hr a
  | cons k l ih => exact ht _ _ _ (hs a k (by simp)) (ih (fun a k hk => hs a k (by simp [hk])) _)
theorem meetF_up (cs : List (ByteArray × Nd)) : ∀ (f : Nat) (t : Nd) (refs : Nat) (inw : Bool) (met : Nat), met < (meetF cs f t refs inw met).2
  | 0, _, _, _, met => by simp [meetF]
  | f + 1, .mk op ns kids nm, refs, inw, met => by
    unfold meetF
    split
    · simp
    · split
      · split
        · simp
        · split
          · simp
          · have := meetF_up cs f (by assumption) (refs + 1) (inw || op == 5) (met + 1); omega
      · have := foldl_keep (fun a b : Int × Nat => a.2 ≤ b.2) (fun _ => Nat.le_refl _) (fun _ _ _ => Nat.le_trans) (fun st k => if st.1 ≠ 0 then st else meetF cs f k refs inw st.2) kids (fun a k _ => by
          show a.2 ≤ (if a.1 ≠ 0 then a else meetF cs f k refs inw a.2).2
          split
          · exact Nat.le_refl _
          · exact Nat.le_of_lt (meetF_up cs f k refs inw a.2)) (0, met + 1)
        exact this
theorem meetF_small (cs : List (ByteArray × Nd)) : ∀ (f : Nat) (t : Nd) (refs : Nat) (inw : Bool) (met : Nat), (meetF cs f t refs inw met).1 = 0 → (meetF cs f t refs inw met).2 ≤ 256
  | 0, _, _, _, met => by simp [meetF]
  | f + 1, .mk op ns kids nm, refs, inw, met => by
    unfold meetF
    split
    · simp
    · rename_i hno
      split
      · split
        · simp
        · split
          · simp
          · exact meetF_small cs f _ _ _ _
      · have := foldl_keep (fun a b : Int × Nat => (a.1 = 0 → a.2 ≤ 256) → (b.1 = 0 → b.2 ≤ 256)) (fun _ h => h) (fun _ _ _ h1 h2 h => h2 (h1 h)) (fun st k => if st.1 ≠ 0 then st else meetF cs f k refs inw st.2) kids (fun a k _ => by
          show (a.1 = 0 → a.2 ≤ 256) → ((if a.1 ≠ 0 then a else meetF cs f k refs inw a.2).1 = 0 → (if a.1 ≠ 0 then a else meetF cs f k refs inw a.2).2 ≤ 256)
          intro ha
          split
          · exact ha
          · exact meetF_small cs f k refs inw a.2) (0, met + 1)
        exact this (fun _ => by show met + 1 ≤ 256; omega)

def spV (refs : Nat) (inw : Bool) : Value := .agg #[.int .i64 refs, .bool inw]
/-- the walk's object -/
def WkAt (w : World) (pw : Nat) (co : Option Addr) (cl cc met : Nat) : Prop := w.heap[pw]? = some (.cells #[.slice co cl cc, .int .i64 met] 62 (0, 0))
theorem WkAt.c0 {w : World} {pw : Nat} {co : Option Addr} {cl cc met : Nat} (h : WkAt w pw co cl cc met) : w.cell? ⟨pw, 0, none⟩ = some (.slice co cl cc) := by rw [cell_of h]; rfl
theorem WkAt.c1 {w : World} {pw : Nat} {co : Option Addr} {cl cc met : Nat} (h : WkAt w pw co cl cc met) : w.cell? ⟨pw, 1, none⟩ = some (.int .i64 met) ∧ w.frozen? ⟨pw, 1, none⟩ = false := ⟨by rw [cell_of h]; rfl, frozen_of h⟩
theorem WkAt.set {w : World} {pw : Nat} {co : Option Addr} {cl cc met : Nat} (h : WkAt w pw co cl cc met) (m : Nat) : WkAt (w.setCell ⟨pw, 1, none⟩ (.int .i64 m)) pw co cl cc m := by unfold WkAt; rw [hset_same h]; rfl
theorem WkAt.below {w w' : World} {pw : Nat} {co : Option Addr} {cl cc met : Nat} (h : WkAt w pw co cl cc met) (hb : Below w.heap.size w w') : WkAt w' pw co cl cc met := by unfold WkAt; rw [hb.block _ (block_lt h)]; exact h

/-- what a call of meet or follow does -/
def Met (w : World) (pw : Nat) (co : Option Addr) (cl cc : Nat) (r : Int × Nat) (e : Ending) (w' : World) : Prop := e = .returned (.int .i64 r.1) ∧ WkAt w' pw co cl cc r.2 ∧ Only (· = pw) w w'
theorem Only.gc {W w w' : World} {pw : Nat} (h : Gc W w) (ho : Only (· = pw) w w') (hp : W.heap.size ≤ pw) : Gc W w' :=
  ⟨h.bits, h.len, h.shp, h.below.trans (ho.toBelow h.below.size (fun i hi => by rw [hi]; exact hp))⟩
end Go.Proofs.YthbfjkdklnffjaaDoor

