/- The walk of CalFiscal. -/
import Derived.Test.YthbfjkdklnffjaaDoorCfA
import Derived.Deep.CutBlock
import Derived.Deep.CutRange
import Derived.Deep.RegionWith
namespace Go.Proofs.YthbfjkdklnffjaaDoor
open Go.ChangeShapes Go.WideShapes Go.ChangeAt Go.RowKit Go.DsMem Go.DsMk
set_option linter.unusedVariables false

theorem CalsAt.none_ (w : World) : CalsAt w none 0 [] 0 0 (fun _ => ⟨0, none, 0, 0, none, 0, 0, ⟨#[]⟩⟩) :=
  ⟨by simp, by simp, fun h => absurd h (by simp), fun j hj => absurd hj (by simp), fun j hj => absurd hj (by simp), fun j hj => absurd hj (by simp)⟩
/-- whether a day is the first one of a fiscal period -/
noncomputable def fiB (p b d : Int) : Bool := inB [] 257 (.mk 6 [p, b] [] ⟨#[]⟩) d
theorem fiB_iff {p b d : Int} (hp : okP p) (h1 : 1 ≤ b) (h2 : b ≤ 12) (d1 : 1 ≤ d) (d2 : d ≤ 3652059) : fiB p b d = true ↔ IsF p b d := fisB hp h1 h2 d1 d2 []
theorem in_fis {W w : World} (g : Gc W w) {p b d : Int} {a : Nat} (hr : RdI w (.slice (some ⟨a, 0, none⟩) 2 2) [p, b]) (hp : okP p) (h1 : 1 ≤ b) (h2 : b ≤ 12) (d1 : 1 ≤ d) (d2 : d ≤ 3652059) (x : Bool) (hx : fiB p b d = x) :
    Calls Tryd.prog 9 #[.slice none 0 0, .agg #[.int .i64 6, .slice (some ⟨a, 0, none⟩) 2 2, .slice none 0 0, .string ⟨#[]⟩], .int .i64 d] w fun e w' => e = .returned (.tuple #[.bool x, .int .i64 0]) ∧ Gc W w' := by
  have := g.inAny none 0 [] 0 0 _ (CalsAt.none_ w) _ _ (NdAt.leaf 6 [p, b] ⟨#[]⟩ (some ⟨a, 0, none⟩) 2 hr (by simp)) d
  have e : inF [] (.mk 6 [p, b] [] ⟨#[]⟩) d = (x, 0) := by
    unfold inF
    rw [if_pos (fisR hp h1 h2 d1 d2), ← hx]; rfl
  rw [e] at this
  exact this
/-- the gap to the next first day -/
theorem gap_ex {p b d : Int} (hp : okP p) (h1 : 1 ≤ b) (h2 : b ≤ 12) (d1 : 800 ≤ d) (d2 : d ≤ 3651259) (h : fiB p b d = true) :
    (d - 1) % 7 = 0 ∧ ∃ G : Int, (G = 28 ∨ G = 35 ∨ G = 42) ∧ fiB p b (d + G) = true ∧ ∀ j : Int, 0 < j → j < G → fiB p b (d + j) = false := by
  obtain ⟨y, k, y1, y2, hk, rfl⟩ := (fiB_iff hp h1 h2 (by omega) (by omega)).1 h
  have hm : (fday b p y k - 1) % 7 = 0 := by
    have := fm_mod b y
    unfold fday; omega
  have hg := nextF_gap (b := b) (p := p) (y := y) hp h1 h2 hk
  refine ⟨hm, nextF b p y k - fday b p y k, by omega, ?_, fun j j1 j2 => ?_⟩
  · rw [show fday b p y k + (nextF b p y k - fday b p y k) = nextF b p y k by omega]
    refine (fiB_iff hp h1 h2 (by omega) (by omega)).2 ?_
    by_cases hk' : k < 11
    · exact ⟨y, k + 1, y1, y2, by omega, by unfold nextF; rw [if_pos hk']⟩
    · refine ⟨y + 1, 0, by omega, ?_, by omega, by unfold nextF; rw [if_neg hk']⟩
      have hb := fm_in b y
      have hd := DsCal.dlen_bd (y := y) (m := b) h1 h2
      have hc := DsCal.cum_bd (y := y) (m := b) h1 (by omega)
      have hn : DsCal.num y b 1 = DsCal.ahead y + DsCal.cum y b + 1 := rfl
      have hw := cumW_bd hp k
      have hf : fday b p y k = fm b y + cumW p k * 7 := rfl
      rcases Int.lt_or_le y 9999 with c | c
      · omega
      · obtain rfl : y = 9999 := by omega
        have ha : DsCal.ahead 9999 = 3651694 := by decide
        omega
  · cases hf : fiB p b (fday b p y k + j) with
    | false => rfl
    | true =>
      obtain ⟨z, i, z1, z2, hi, e⟩ := (fiB_iff hp h1 h2 (by omega) (by omega)).1 hf
      have := nextF_least (b := b) (p := p) (y := y) (z := z) hp h1 h2 hk hi (by omega)
      omega
/-- what the law has made: the node in q -/
structure FisAt (W wc : World) (p b : Int) (q a : Nat) : Prop where
  node : wc.heap[q]? = some (.cells #[.int .i64 6, .slice (some ⟨a, 0, none⟩) 2 2, .slice none 0 0, .string ⟨#[]⟩] 31 (0, 0))
  nums : RdI wc (.slice (some ⟨a, 0, none⟩) 2 2) [p, b]
  gc : Gc W wc
theorem FisAt.grew {W wc w' : World} {p b : Int} {q a : Nat} (h : FisAt W wc p b q a) (hb : Below wc.heap.size wc w') : FisAt W w' p b q a :=
  ⟨by rw [hb.block q (block_lt h.node)]; exact h.node, h.nums.below hb, h.gc.more hb⟩
theorem FisAt.cells {W wc : World} {p b : Int} {q a : Nat} (h : FisAt W wc p b q a) : wc.cell? ⟨q, 0, none⟩ = some (.int .i64 6) ∧ wc.cell? ⟨q, 1, none⟩ = some (.slice (some ⟨a, 0, none⟩) 2 2) ∧ wc.cell? ⟨q, 2, none⟩ = some (.slice none 0 0) ∧ wc.cell? ⟨q, 3, none⟩ = some (.string ⟨#[]⟩) :=
  ⟨by rw [cell_of h.node]; rfl, by rw [cell_of h.node]; rfl, by rw [cell_of h.node]; rfl, by rw [cell_of h.node]; rfl⟩

theorem FisAt.newA {W : World} (h : Gc W W) (s3 : Array Value) (p b : Int) (t : TypeId) :
    FisAt W (((W.alloc (.cells s3 t)).alloc (.cells #[.int .i64 p, .int .i64 b] 2)).alloc (.cells #[.int .i64 6, .slice (some ⟨W.heap.size + 1, 0, none⟩) 2 2, .slice none 0 0, .string ⟨#[]⟩] 31)).drew p b (W.heap.size + 1 + 1) (W.heap.size + 1) := by
  have r1 := RdI.new2 (W.alloc (.cells s3 t)) p b 2
  have z1 : (W.alloc (.cells s3 t)).heap.size = W.heap.size + 1 := by simp
  have g1 := h.alloc (.cells s3 t)
  rw [z1] at r1
  generalize W.alloc (.cells s3 t) = w1 at *
  have z2 : (w1.alloc (.cells #[.int .i64 p, .int .i64 b] 2)).heap.size = W.heap.size + 1 + 1 := by simp [z1]
  have g2 := g1.alloc (.cells #[.int .i64 p, .int .i64 b] 2)
  generalize w1.alloc (.cells #[.int .i64 p, .int .i64 b] 2) = w2 at *
  rw [← z2]
  exact ⟨heap_alloc_new w2 _, (r1.below ((Below.refl _ _).alloc (Nat.le_refl _) _)).below (Below.refl _ _).drew, (g2.alloc _).drew⟩
theorem FisAt.newB {W : World} (h : Gc W W) (s3 : Array Value) (p b : Int) (t : TypeId) :
    FisAt W (((W.alloc (.cells #[.int .i64 6, .slice (some ⟨W.heap.size + 1 + 1, 0, none⟩) 2 2, .slice none 0 0, .string ⟨#[]⟩] 31)).alloc (.cells s3 t)).alloc (.cells #[.int .i64 p, .int .i64 b] 2)).drew p b W.heap.size (W.heap.size + 1 + 1) := by
  have n0 := heap_alloc_new W (.cells #[.int .i64 6, .slice (some ⟨W.heap.size + 1 + 1, 0, none⟩) 2 2, .slice none 0 0, .string ⟨#[]⟩] 31)
  have n1 := heap_keep (o := .cells s3 t) n0
  have r1 := RdI.new2 ((W.alloc (.cells #[.int .i64 6, .slice (some ⟨W.heap.size + 1 + 1, 0, none⟩) 2 2, .slice none 0 0, .string ⟨#[]⟩] 31)).alloc (.cells s3 t)) p b 2
  rw [show ((W.alloc (.cells #[.int .i64 6, .slice (some ⟨W.heap.size + 1 + 1, 0, none⟩) 2 2, .slice none 0 0, .string ⟨#[]⟩] 31)).alloc (.cells s3 t)).heap.size = W.heap.size + 1 + 1 by simp] at r1
  exact ⟨heap_keep n1, r1.below (Below.refl _ _).drew, (((h.alloc _).alloc _).alloc _).drew⟩
theorem FisAt.newC {W : World} (h : Gc W W) (s3 : Array Value) (p b : Int) (t : TypeId) :
    FisAt W (((W.alloc (.cells s3 t)).alloc (.cells #[.int .i64 6, .slice (some ⟨W.heap.size + 1 + 1, 0, none⟩) 2 2, .slice none 0 0, .string ⟨#[]⟩] 31)).alloc (.cells #[.int .i64 p, .int .i64 b] 2)).drew p b (W.heap.size + 1) (W.heap.size + 1 + 1) := by
  have n0 := heap_alloc_new (W.alloc (.cells s3 t)) (.cells #[.int .i64 6, .slice (some ⟨W.heap.size + 1 + 1, 0, none⟩) 2 2, .slice none 0 0, .string ⟨#[]⟩] 31)
  rw [show (W.alloc (.cells s3 t)).heap.size = W.heap.size + 1 by simp] at n0
  have r1 := RdI.new2 ((W.alloc (.cells s3 t)).alloc (.cells #[.int .i64 6, .slice (some ⟨W.heap.size + 1 + 1, 0, none⟩) 2 2, .slice none 0 0, .string ⟨#[]⟩] 31)) p b 2
  rw [show ((W.alloc (.cells s3 t)).alloc (.cells #[.int .i64 6, .slice (some ⟨W.heap.size + 1 + 1, 0, none⟩) 2 2, .slice none 0 0, .string ⟨#[]⟩] 31)).heap.size = W.heap.size + 1 + 1 by simp] at r1
  exact ⟨heap_keep n0, r1.below (Below.refl _ _).drew, (((h.alloc _).alloc _).alloc _).drew⟩
/-- r is the number from 0 to one below n of a -/
def CntR (a n r : Int) : Prop := cnt a n = r ∧ (-9223372036854775808 ≤ a ∧ a ≤ 9223372036854775807) ∧ (1 ≤ n ∧ n ≤ 9223372036854775807)
theorem cntR {a n r : Int} (h : CntR a n r) (w : World) : Calls Tryd.prog 12 #[.int .i64 a, .int .i64 n] w fun e w' => e = .returned (.int .i64 r) ∧ w' = w := by
  obtain ⟨rfl, h1, h2⟩ := h
  exact cnt_any a n w h1 h2
set_option maxHeartbeats 80000000 in
set_option maxRecDepth 20000 in
theorem fiscal_walk0 (pt mo d c m p : Int) (W : World) (h : Gc W W) (hpt : -9223372036854775808 ≤ pt ∧ pt ≤ 9223372036854775807) (hmo : -9223372036854775808 ≤ mo ∧ mo ≤ 9223372036854775807)
    (hc : cnt pt 3 = c) (hm : cnt mo 12 = m) (hm1 : 0 ≤ m) (hm2 : m ≤ 11) (hcp : (c = 0 ∧ p = 445) ∨ (c = 1 ∧ p = 454) ∨ (c = 2 ∧ p = 544)) :
    Calls Tryd.prog 5 #[.int .i64 pt, .int .i64 mo, .int .i64 d] W fun e W' => e = .returned (.bool true) ∧ Below W.heap.size W W' := by
  have HG := hide h
  have HPT := hide hpt
  have HMO := hide hmo
  have HC := hide hc
  have HM := hide hm
  have HP : Hid (okP p) := by refine hide ?_; unfold okP; omega
  clear h hpt hmo hc hm
  have hc1 : CntR pt 3 c := ⟨HC.out, HPT.out, by omega⟩
  have hc2 : CntR mo 12 m := ⟨HM.out, HMO.out, by omega⟩
  clear HC HM HPT HMO
  go_enter Tryd.func5, Tryd.ntmps5
  go_upto_region 1 with fail
  go_cut [7] from 16 to 25 (fun s7 wc => ∃ q a, s7 = .pointer (some ⟨q, 0, none⟩) ∧ FisAt W wc p (1 + m) q a)
  case first =>
    have HWR : Hid (IntKind.i64.wrap (1 + m) = 1 + m) := by refine hide ?_; rw [IntKind.wrap_i64]; omega
    have hc0 : 0 ≤ c := by omega
    have hc3 : c < 3 := by omega
    have hl : ∀ w : World, (w.alloc (.cells #[.int .i64 445, .int .i64 454, .int .i64 544] 2)).cell? ⟨w.heap.size, c.toNat, none⟩ = some (.int .i64 p) := fun w => by
      rw [cell_of (heap_alloc_new w _)]
      rcases hcp with ⟨rfl, rfl⟩ | ⟨rfl, rfl⟩ | ⟨rfl, rfl⟩ <;> rfl
    have hl2 : ∀ (w : World) (o : Obj), ((w.alloc o).alloc (.cells #[.int .i64 445, .int .i64 454, .int .i64 544] 2)).cell? ⟨w.heap.size + 1, c.toNat, none⟩ = some (.int .i64 p) := fun w o => by
      have := hl (w.alloc o)
      rw [show (w.alloc o).heap.size = w.heap.size + 1 by simp] at this
      exact this
    have hl3 : ∀ (w : World) (o : Obj), ((w.alloc (.cells #[.int .i64 445, .int .i64 454, .int .i64 544] 2)).alloc o).cell? ⟨w.heap.size, c.toNat, none⟩ = some (.int .i64 p) := fun w o =>
      Below.keeps ((Below.refl _ _).alloc (Nat.le_refl _) o) (Nat.le_refl _) (hl w)
    clear hcp
    go_region_with (go_at_call 12; refine (cntR (by assumption) _).mono ?_; rintro e w' ⟨rfl, rfl⟩)
    all_goals
      rw [HWR.out]
      go_wp2
      go_meet
      case rel => first | exact ⟨_, _, rfl, FisAt.newA HG.out _ _ _ _⟩ | exact ⟨_, _, rfl, FisAt.newB HG.out _ _ _ _⟩ | exact ⟨_, _, rfl, FisAt.newC HG.out _ _ _ _⟩
  case rest =>
    rename World => wc
    obtain ⟨q, a, rfl, hfs⟩ := hcut
    have HF := hide hfs
    have HW := hide hfs.gc
    clear hfs
    clear hcp hc1 hc2
    by_cases hd : d < 800 ∨ 3651259 < d
    · rcases hd with hd | hd
      · go_wp2_with (go_at_call 10; refine (HW.out.known6).mono ?_; rintro e w1 ⟨rfl, hg1⟩; have HG1 := hide hg1; clear hg1)
        go_ret
        exact ⟨rfl, HG1.out.below⟩
      · have hd' : 800 ≤ d := by omega
        go_wp2_with (go_at_call 10; refine (HW.out.known6).mono ?_; rintro e w1 ⟨rfl, hg1⟩; have HG1 := hide hg1; clear hg1)
        go_ret
        exact ⟨rfl, HG1.out.below⟩
    · have hd1 : 800 ≤ d := by omega
      have hd2 : d ≤ 3651259 := by omega
      clear hd
      have HGAP : Hid (fiB p (1 + m) d = true → (d - 1) % 7 = 0 ∧ ∃ G : Int, (G = 28 ∨ G = 35 ∨ G = 42) ∧ fiB p (1 + m) (d + G) = true ∧ ∀ j : Int, 0 < j → j < G → fiB p (1 + m) (d + j) = false) := fun h => gap_ex HP.out (by omega) (by omega) hd1 hd2 h
      obtain ⟨x, hx⟩ : ∃ x, fiB p (1 + m) d = x := ⟨_, rfl⟩
      have HX := hide hx
      rw [hx] at HGAP
      clear hx
      obtain ⟨k0, k1, k2, k3⟩ := HF.out.cells
      go_wp2_with (go_at_call 13; refine (Dt.refWeekday_yes d _ (by omega) (by omega)).mono ?_; rintro e w1 ⟨rfl, rfl⟩)
      refine (in_fis HF.out.gc.here HF.out.nums HP.out (by omega) (by omega) (by omega) (by omega) x HX.out).mono ?_
      rintro e w2 ⟨rfl, hg2⟩
      have HF2 := hide (HF.out.grew hg2.below)
      clear hg2 k0 k1 k2 k3 HF HW
      cases x with
      | false =>
        go_wp2_with (go_at_call 10; refine (HF2.out.gc.known6).mono ?_; rintro e w3 ⟨rfl, hg3⟩; have HG3 := hide hg3; clear hg3)
        go_ret
        exact ⟨rfl, HG3.out.below⟩
      | true =>
        obtain ⟨hwd, G, hG, hin, hno⟩ := HGAP.out rfl
        have HIN := hide hin
        have HNO := hide hno
        clear hin hno HGAP
        go_wp2_with fail
        go_loopw [12, 13] (fun tn tk wr => ∃ n k : Int, tn = .int .i64 n ∧ tk = .int .i64 k ∧ 1 ≤ k ∧ ((n = 0 ∧ k ≤ G) ∨ (n = G ∧ k = G + 1)) ∧ FisAt W wr p (1 + m) q a) (fun _ tk _ => (43 - intOf tk).toNat)
        case atStart => exact ⟨0, 1, rfl, rfl, by omega, .inl ⟨rfl, by omega⟩, HF2.out⟩
        case round =>
          obtain ⟨n, k, rfl, rfl, hk1, hnk, hfr⟩ := hrel
          have HFR := hide hfr
          obtain ⟨k0, k1, k2, k3⟩ := hfr.cells
          clear hfr
          rcases hnk with ⟨rfl, hk2⟩ | ⟨rfl, rfl⟩
          · have hk42 : k ≤ 42 := by omega
            obtain ⟨y, hy⟩ : ∃ y, fiB p (1 + m) (d + k) = y := ⟨_, rfl⟩
            have HY := hide hy
            clear hy
            go_wp2_with fail
            refine (in_fis HFR.out.gc.here HFR.out.nums HP.out (by omega) (by omega) (by omega) (by omega) y HY.out).mono ?_
            rintro e w4 ⟨rfl, hg4⟩
            have HF4 := hide (HFR.out.grew hg4.below)
            clear hg4 k0 k1 k2 k3
            cases y with
            | true =>
              have hkG : k = G := by
                by_cases c : k < G
                · have := HNO.out k (by omega) c
                  rw [HY.out] at this; cases this
                · omega
              subst hkG
              go_wp2
              go_roundw
              case rel => exact ⟨k, k + 1, rfl, by go_num, by omega, .inr ⟨rfl, rfl⟩, HF4.out⟩
              case measure => simp [intOf]; omega
            | false =>
              have hkG : k < G := by
                by_cases c : k = G
                · have := HIN.out
                  rw [← c, HY.out] at this; cases this
                · omega
              go_wp2
              go_roundw
              case rel => exact ⟨0, k + 1, rfl, by go_num, by omega, .inl ⟨rfl, by omega⟩, HF4.out⟩
              case measure => simp [intOf]; omega
          · clear k0 k1 k2 k3
            have hn0 : ¬ n = 0 := by omega
            rcases hG with rfl | rfl | rfl
            all_goals
              go_wp2_with (go_at_call 10; refine (HFR.out.gc.known6).mono ?_; rintro e w5 ⟨rfl, hg5⟩; have HG5 := hide hg5; clear hg5)
              go_ret
              exact ⟨rfl, HG5.out.below⟩
theorem fiscal_walk (pt mo d : Int) (W : World) (h : Gc W W) (hpt : -9223372036854775808 ≤ pt ∧ pt ≤ 9223372036854775807) (hmo : -9223372036854775808 ≤ mo ∧ mo ≤ 9223372036854775807) :
    Calls Tryd.prog 5 #[.int .i64 pt, .int .i64 mo, .int .i64 d] W fun e W' => e = .returned (.bool true) ∧ Below W.heap.size W W' := by
  have h1 := cnt_lt (k := pt) (n := 3) (by omega)
  have h2 := cnt_lt (k := mo) (n := 12) (by omega)
  have h3 : cnt pt 3 = 0 ∨ cnt pt 3 = 1 ∨ cnt pt 3 = 2 := by omega
  rcases h3 with e | e | e
  · exact fiscal_walk0 pt mo d 0 _ 445 W h hpt hmo e rfl h2.1 (by omega) (.inl ⟨rfl, rfl⟩)
  · exact fiscal_walk0 pt mo d 1 _ 454 W h hpt hmo e rfl h2.1 (by omega) (.inr (.inl ⟨rfl, rfl⟩))
  · exact fiscal_walk0 pt mo d 2 _ 544 W h hpt hmo e rfl h2.1 (by omega) (.inr (.inr ⟨rfl, rfl⟩))
end Go.Proofs.YthbfjkdklnffjaaDoor
