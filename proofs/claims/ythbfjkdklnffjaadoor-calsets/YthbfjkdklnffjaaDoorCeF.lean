/- Package cal: the walk of days, of Ref, Work and Not (written by gen_cef.py). -/
import Derived.Test.YthbfjkdklnffjaaDoorCeE
namespace Go.Proofs.YthbfjkdklnffjaaDoor
open Go.ChangeShapes Go.WideShapes Go.ChangeAt Go.RowKit Go.DsMem Go.DsMk
set_option linter.unusedVariables false
theorem nthL_le (l : List Nat) (x : Int) (h : ∀ z ∈ l, z ≤ 31) : nthL l x ≤ 31 := by
  have key : ∀ i : Nat, l[i]?.getD 0 ≤ 31 := fun i => by
    by_cases hi : i < l.length
    · rw [List.getElem?_eq_getElem hi]; exact h _ (List.getElem_mem hi)
    · rw [List.getElem?_eq_none (by omega)]; decide
  unfold nthL
  split
  · exact key _
  · split
    · exact key _
    · decide
theorem below3 (w : World) (x y z : Obj) : Below w.heap.size w (((w.alloc x).alloc y).alloc z) := (((Below.refl _ _).alloc (Nat.le_refl _) _).alloc (by simp) _).alloc (by simp; omega) _

set_option maxHeartbeats 8000000 in
set_option maxRecDepth 20000 in
theorem days10 (k : Nat) (ih : DaysOk k) (no : Option Addr) (nl nc : Nat) (ko : Option Addr) (kl kc : Nat) (nm : ByteArray) (t : Nd) (M : Mo) (n : Nat) (W w : World) (B : Nat) (co : Option Addr) (cc : Nat) (cs : List (ByteArray × Nd)) (g o : Nat) (V : Nat → NVal)
    (h : Gc W w) (hp : W.heap.size ≤ B) (hc : CalsAt W co cc cs g o V) (h24 : cs.length ≤ 24) (hm : Memo cs w B n) (hM : M.ok) (hcal : calOf cs nm = some t) (hk : okD cs k t) (hn : n + (1 + costF cs k t) ≤ 100000) :
    Calls Tryd.prog 27 #[askrV co cs.length cc B, ndV 10 no nl nc ko kl kc nm, M.val] w (Dayd cs w B (n + (1 + costF cs k t)) (daysF cs M k t)) := by
  obtain ⟨b1, b2, b3, b4, b5, b6, b7, b8⟩ := isMo_bd hM
  have HIH := hide ih
  have HG := hide h
  have HC := hide hc
  have HMM := hide hm
  have HMO := hide hM
  have HK := hide hk
  clear ih h hc hm hM hk
  have hB : B < w.heap.size := HMM.out.lt
  have HCAL := hide hcal
  clear hcal
  obtain ⟨wA, hwA⟩ : ∃ wA, wA = ((w.alloc (.cells #[.slice co cs.length cc, .map (some B)] 53)).alloc (.cells #[.int .i64 10, .slice no nl nc, .slice ko kl kc, .string nm] 31)).alloc (.cells #[.int .i64 M.y, .int .i64 M.m, .int .i64 M.f, .int .i64 M.s] 67) := ⟨_, rfl⟩
  have HBX : Hid (Bxs wA w.heap.size co cs.length cc B 10 no nl nc ko kl kc nm M) := by rw [hwA]; exact Bxs.new _ _ _ _ _ _ _ _ _ _ _ _ _ _
  have HBL : Hid (Below w.heap.size w wA) := by rw [hwA]; exact below3 w _ _ _
  have HGA : Hid (Gc W wA) := HG.out.more HBL.out
  have HMA : Hid (Memo cs wA B n) := HMM.out.below HBL.out
  have HCALL := hide (named_step k HIH.out nm t M n W wA B co cc cs g o V HGA.out hp HC.out h24 HMA.out HMO.out HCAL.out HK.out hn)
  unfold askrV Mo.val moV at HCALL
  unfold askrV ndV Mo.val moV
  go_enter Tryd.func27, Tryd.ntmps27
  go_wp2_with fail
  rw [← hwA]
  clear hwA
  generalize hpp : w.heap.size = p at HBX ⊢
  obtain ⟨a0, a1, n0, n1, n2, n3, m0, m1, m2, m3⟩ := HBX.out
  refine HCALL.out.mono ?_
  rintro e w2 ⟨rfl, hmem, hon⟩
  have HMEM := hide hmem
  have HON := hide hon
  clear hmem hon
  go_wp2
  go_ret
  exact Dayd.of ⟨rfl, HMEM.out, (Only.below HBL.out).trans HON.out (fun _ _ h => h)⟩

set_option maxHeartbeats 8000000 in
set_option maxRecDepth 20000 in
theorem days5 (k : Nat) (ih : DaysOk k) (x : Int) (no : Option Addr) (nl nc : Nat) (ko : Option Addr) (kl kc : Nat) (nm : ByteArray) (t : Nd) (M : Mo) (n : Nat) (W w : World) (B : Nat) (co : Option Addr) (cc : Nat) (cs : List (ByteArray × Nd)) (g o : Nat) (V : Nat → NVal)
    (h : Gc W w) (hp : W.heap.size ≤ B) (hc : CalsAt W co cc cs g o V) (h24 : cs.length ≤ 24) (hm : Memo cs w B n) (hM : M.ok) (hcal : calOf cs nm = some t) (hr : RdI W (.slice no nl nc) [x]) (hx1 : -31 ≤ x) (hx2 : x ≤ 31) (hk : okD cs k t) (hn : n + (1 + costF cs k t) ≤ 100000) :
    Calls Tryd.prog 27 #[askrV co cs.length cc B, ndV 5 no nl nc ko kl kc nm, M.val] w (Dayd cs w B (n + (1 + costF cs k t)) (daysN M.s [(nthL (dl (daysF cs M k t)) x : Int)])) := by
  obtain ⟨b1, b2, b3, b4, b5, b6, b7, b8⟩ := isMo_bd hM
  have HIH := hide ih
  have HG := hide h
  have HC := hide hc
  have HMM := hide hm
  have HMO := hide hM
  have HK := hide hk
  clear ih h hc hm hM hk
  have hB : B < w.heap.size := HMM.out.lt
  have HCAL := hide hcal
  have HR := hide hr
  clear hcal hr
  obtain ⟨wA, hwA⟩ : ∃ wA, wA = ((w.alloc (.cells #[.slice co cs.length cc, .map (some B)] 53)).alloc (.cells #[.int .i64 5, .slice no nl nc, .slice ko kl kc, .string nm] 31)).alloc (.cells #[.int .i64 M.y, .int .i64 M.m, .int .i64 M.f, .int .i64 M.s] 67) := ⟨_, rfl⟩
  have HBX : Hid (Bxs wA w.heap.size co cs.length cc B 5 no nl nc ko kl kc nm M) := by rw [hwA]; exact Bxs.new _ _ _ _ _ _ _ _ _ _ _ _ _ _
  have HBL : Hid (Below w.heap.size w wA) := by rw [hwA]; exact below3 w _ _ _
  have HGA : Hid (Gc W wA) := HG.out.more HBL.out
  have HMA : Hid (Memo cs wA B n) := HMM.out.below HBL.out
  have HCALL := hide (named_step k HIH.out nm t M n W wA.drew B co cc cs g o V HGA.out.drew hp HC.out h24 (HMA.out.below (Below.refl _ _).drew) HMO.out HCAL.out HK.out hn)
  unfold askrV Mo.val moV at HCALL
  have HRA := hide (HR.out.below HGA.out.below)
  unfold askrV ndV Mo.val moV
  go_enter Tryd.func27, Tryd.ntmps27
  go_wp2
  rw [← hwA]
  clear hwA
  generalize hpp : w.heap.size = p at HBX ⊢
  obtain ⟨a0, a1, n0, n1, n2, n3, m0, m1, m2, m3⟩ := HBX.out
  obtain ⟨xa, rfl⟩ : ∃ a, no = some a := by
    obtain ⟨ao, cap, hv, _, hnil, _⟩ := HRA.out
    cases no with
    | none => simp at hv; obtain ⟨rfl, hl, _⟩ := hv; have := hnil rfl; simp at this
    | some a => exact ⟨a, rfl⟩
  obtain rfl : nl = 1 := by obtain ⟨ao, cap, hv, _⟩ := HR.out; simp at hv; exact hv.2.1
  have xc0 := rd1 HRA.out
  have xcW := rd1 HR.out
  obtain ⟨xg, xo, xs⟩ := xa
  have hpl := plain_addr xc0
  simp only [Addr.mk.injEq, true_and] at hpl
  subst hpl
  have hxB : ¬ xg = B := fun e => by have := World.block_lt_of_cell? W _ xcW; simp at this; omega
  have KPO : Hid (∀ w', Only (· = B) wA.drew w' → w'.cell? ⟨p, 0, none⟩ = some (.slice co cs.length cc) ∧ w'.cell? ⟨p, 1, none⟩ = some (.map (some B)) ∧ w'.cell? ⟨p + 1, 1, none⟩ = some (.slice (some ⟨xg, xo, none⟩) 1 nc) ∧ w'.cell? ⟨p + 1, 3, none⟩ = some (.string nm) ∧ w'.cell? ⟨p + 2, 0, none⟩ = some (.int .i64 M.y) ∧ w'.cell? ⟨p + 2, 1, none⟩ = some (.int .i64 M.m) ∧ w'.cell? ⟨p + 2, 2, none⟩ = some (.int .i64 M.f) ∧ w'.cell? ⟨p + 2, 3, none⟩ = some (.int .i64 M.s) ∧ w'.cell? ⟨xg, xo, none⟩ = some (.int .i64 x)) := fun w' ho => by
    have hx := (HBX.out.below (Below.refl _ _).drew).only ho (by omega)
    exact ⟨hx.a0, hx.a1, hx.n1, hx.n3, hx.m0, hx.m1, hx.m2, hx.m3, ho.cell (w := wA.drew) xc0 hxB⟩
  have KPG : Hid (∀ w2 w', Only (· = B) wA.drew w2 → Below w2.heap.size w2 w' → w'.cell? ⟨p, 0, none⟩ = some (.slice co cs.length cc) ∧ w'.cell? ⟨p, 1, none⟩ = some (.map (some B)) ∧ w'.cell? ⟨p + 1, 1, none⟩ = some (.slice (some ⟨xg, xo, none⟩) 1 nc) ∧ w'.cell? ⟨p + 1, 3, none⟩ = some (.string nm) ∧ w'.cell? ⟨p + 2, 0, none⟩ = some (.int .i64 M.y) ∧ w'.cell? ⟨p + 2, 1, none⟩ = some (.int .i64 M.m) ∧ w'.cell? ⟨p + 2, 2, none⟩ = some (.int .i64 M.f) ∧ w'.cell? ⟨p + 2, 3, none⟩ = some (.int .i64 M.s) ∧ w'.cell? ⟨xg, xo, none⟩ = some (.int .i64 x)) := fun w2 w' ho hb => by
    obtain ⟨c1, c2, c3, c4, c5, c6, c7, c8, c9⟩ := KPO.out w2 ho
    exact ⟨Below.keeps hb (Nat.le_refl _) c1, Below.keeps hb (Nat.le_refl _) c2, Below.keeps hb (Nat.le_refl _) c3, Below.keeps hb (Nat.le_refl _) c4, Below.keeps hb (Nat.le_refl _) c5, Below.keeps hb (Nat.le_refl _) c6, Below.keeps hb (Nat.le_refl _) c7, Below.keeps hb (Nat.le_refl _) c8, Below.keeps hb (Nat.le_refl _) c9⟩
  have hdl := daysF_lt cs M k t
  generalize hde : daysF cs M k t = dd at *
  have HDE := hide hde
  obtain ⟨nn, hnn⟩ : ∃ nn, nthL (dl dd) x = nn := ⟨_, rfl⟩
  have HNN := hide hnn
  have hnn31 : nn ≤ 31 := by rw [← hnn]; exact nthL_le _ _ (fun z hz => (dl_pos dd z hz).2)
  clear hde hnn hxB
  first
    | (go_region_held3 (fun w' => w'.cell? ⟨p, 0, none⟩ = some (.slice co cs.length cc) ∧ w'.cell? ⟨p, 1, none⟩ = some (.map (some B)) ∧ w'.cell? ⟨p + 1, 1, none⟩ = some (.slice (some ⟨xg, xo, none⟩) 1 nc) ∧ w'.cell? ⟨p + 1, 3, none⟩ = some (.string nm) ∧ w'.cell? ⟨p + 2, 0, none⟩ = some (.int .i64 M.y) ∧ w'.cell? ⟨p + 2, 1, none⟩ = some (.int .i64 M.m) ∧ w'.cell? ⟨p + 2, 2, none⟩ = some (.int .i64 M.f) ∧ w'.cell? ⟨p + 2, 3, none⟩ = some (.int .i64 M.s) ∧ w'.cell? ⟨xg, xo, none⟩ = some (.int .i64 x))
        (first | go_keep | (exact KPO.out _ (by assumption)) | (exact KPG.out _ _ (by assumption) (by assumption)) | (exact KPG.out _ _ (by assumption) (Below.alloc (by assumption) (Below.size (by assumption)) _)))
        (first
          | (go_at_call 39; refine HCALL.out.mono ?_; rintro e w2 ⟨rfl, hmem, hon⟩)
          | (go_at_call 40; refine (Gd.nth (W := w2) (Only.gc HGA.out.drew hon hp).here.gd dd x (by omega) (by omega) (by omega) HNN.out).mono ?_; rintro e w3 ⟨rfl, hgn⟩; have hb3 := hgn.below)
          | (go_at_call 37; refine (days_any [(nn : Int)] M.s _ _ (by exact rdi_one _ _) (by simp) (by omega) (by omega) (by intro q hq; simp at hq; subst hq; omega)).mono ?_; rintro e w4 ⟨rfl, rfl⟩)))
    | fail
  obtain ⟨n', hn', hm'⟩ := hmem
  have HM2 := hide hm'
  have HN2 := hide hn'
  have HON := hide hon
  have HB3 := hide hb3
  clear hm' hn' hon hb3 hgn a0 a1 n0 n1 n2 n3 m0 m1 m2 m3 xc0 xcW
  go_wp2
  go_ret
  have hbz := HB3.out.alloc HB3.out.size (.cells #[.int .i64 (nn : Int)] 2)
  exact Dayd.of ⟨ret_int (by rw [← HNN.out, ← HDE.out]), ⟨n', HN2.out, HM2.out.below hbz⟩, (Only.below HBL.out).drew.trans (HON.out.trans (Only.below hbz) (fun _ _ h => h)) (fun _ _ h => h)⟩

set_option maxHeartbeats 8000000 in
set_option maxRecDepth 20000 in
theorem days9 (k : Nat) (ih : DaysOk k) (kv : NVal) (kg kO : Nat) (no : Option Addr) (nl nc : Nat) (ko : Option Addr) (kl kc : Nat) (nm : ByteArray) (t : Nd) (M : Mo) (n : Nat) (W w : World) (B : Nat) (co : Option Addr) (cc : Nat) (cs : List (ByteArray × Nd)) (g o : Nat) (V : Nat → NVal)
    (h : Gc W w) (hp : W.heap.size ≤ B) (hc : CalsAt W co cc cs g o V) (h24 : cs.length ≤ 24) (hm : Memo cs w B n) (hM : M.ok) (hko : ko = some ⟨kg, kO, none⟩) (hkl : kl = 1) (hkc : kl ≤ kc) (hin : NIn W kg kO kv) (hnd : NdAt W kv t) (hk : okD cs k t) (hn : n + (1 + costF cs k t) ≤ 100000) :
    Calls Tryd.prog 27 #[askrV co cs.length cc B, ndV 9 no nl nc ko kl kc nm, M.val] w (Dayd cs w B (n + (1 + costF cs k t)) (difN (allN M.s) (daysF cs M k t))) := by
  obtain ⟨b1, b2, b3, b4, b5, b6, b7, b8⟩ := isMo_bd hM
  have HIH := hide ih
  have HG := hide h
  have HC := hide hc
  have HMM := hide hm
  have HMO := hide hM
  have HK := hide hk
  clear ih h hc hm hM hk
  have hB : B < w.heap.size := HMM.out.lt
  have HIN := hide hin
  have HND := hide hnd
  clear hin hnd
  obtain ⟨wA, hwA⟩ : ∃ wA, wA = ((w.alloc (.cells #[.slice co cs.length cc, .map (some B)] 53)).alloc (.cells #[.int .i64 9, .slice no nl nc, .slice ko kl kc, .string nm] 31)).alloc (.cells #[.int .i64 M.y, .int .i64 M.m, .int .i64 M.f, .int .i64 M.s] 67) := ⟨_, rfl⟩
  have HBX : Hid (Bxs wA w.heap.size co cs.length cc B 9 no nl nc ko kl kc nm M) := by rw [hwA]; exact Bxs.new _ _ _ _ _ _ _ _ _ _ _ _ _ _
  have HBL : Hid (Below w.heap.size w wA) := by rw [hwA]; exact below3 w _ _ _
  have HGA : Hid (Gc W wA) := HG.out.more HBL.out
  have HMA : Hid (Memo cs wA B n) := HMM.out.below HBL.out
  have HCALL := hide (HIH.out t kv M n W wA.drew B co cc cs g o V HGA.out.drew hp HND.out HC.out h24 (HMA.out.below (Below.refl _ _).drew) HMO.out HK.out (by omega))
  unfold askrV NVal.val ndV Mo.val moV at HCALL
  subst hko hkl
  obtain ⟨k0, k1, k2, k3⟩ := HIN.out.mono (fun a u hc => Below.keeps HGA.out.below (Nat.le_refl _) hc)
  unfold askrV ndV Mo.val moV
  go_enter Tryd.func27, Tryd.ntmps27
  go_wp2
  rw [← hwA]
  clear hwA
  generalize hpp : w.heap.size = p at HBX ⊢
  obtain ⟨a0, a1, n0, n1, n2, n3, m0, m1, m2, m3⟩ := HBX.out
  have hkB : ¬ kg = B := fun e => by have := World.block_lt_of_cell? W _ HIN.out.c0; simp at this; omega
  have KPO : Hid (∀ w', Only (· = B) wA.drew w' → w'.cell? ⟨p, 0, none⟩ = some (.slice co cs.length cc) ∧ w'.cell? ⟨p, 1, none⟩ = some (.map (some B)) ∧ w'.cell? ⟨p + 1, 2, none⟩ = some (.slice (some ⟨kg, kO, none⟩) 1 kc) ∧ w'.cell? ⟨p + 2, 0, none⟩ = some (.int .i64 M.y) ∧ w'.cell? ⟨p + 2, 1, none⟩ = some (.int .i64 M.m) ∧ w'.cell? ⟨p + 2, 2, none⟩ = some (.int .i64 M.f) ∧ w'.cell? ⟨p + 2, 3, none⟩ = some (.int .i64 M.s) ∧ w'.cell? ⟨kg, kO, none⟩ = some (.int .i64 kv.op) ∧ w'.cell? ⟨kg, kO + 1, none⟩ = some (.slice kv.no kv.nl kv.nc) ∧ w'.cell? ⟨kg, kO + 2, none⟩ = some (.slice kv.ko kv.kl kv.kc) ∧ w'.cell? ⟨kg, kO + 3, none⟩ = some (.string kv.nm)) := fun w' ho => by
    have hx := (HBX.out.below (Below.refl _ _).drew).only ho (by omega)
    exact ⟨hx.a0, hx.a1, hx.n2, hx.m0, hx.m1, hx.m2, hx.m3, ho.cell (w := wA.drew) k0 hkB, ho.cell (w := wA.drew) k1 hkB, ho.cell (w := wA.drew) k2 hkB, ho.cell (w := wA.drew) k3 hkB⟩
  have hdl := daysF_lt cs M k t
  generalize hde : daysF cs M k t = dd at *
  have HDE := hide hde
  clear hde hkB
  first
    | (go_region_held3 (fun w' => w'.cell? ⟨p, 0, none⟩ = some (.slice co cs.length cc) ∧ w'.cell? ⟨p, 1, none⟩ = some (.map (some B)) ∧ w'.cell? ⟨p + 1, 2, none⟩ = some (.slice (some ⟨kg, kO, none⟩) 1 kc) ∧ w'.cell? ⟨p + 2, 0, none⟩ = some (.int .i64 M.y) ∧ w'.cell? ⟨p + 2, 1, none⟩ = some (.int .i64 M.m) ∧ w'.cell? ⟨p + 2, 2, none⟩ = some (.int .i64 M.f) ∧ w'.cell? ⟨p + 2, 3, none⟩ = some (.int .i64 M.s) ∧ w'.cell? ⟨kg, kO, none⟩ = some (.int .i64 kv.op) ∧ w'.cell? ⟨kg, kO + 1, none⟩ = some (.slice kv.no kv.nl kv.nc) ∧ w'.cell? ⟨kg, kO + 2, none⟩ = some (.slice kv.ko kv.kl kv.kc) ∧ w'.cell? ⟨kg, kO + 3, none⟩ = some (.string kv.nm))
        (first | go_keep | (exact KPO.out _ (by assumption)))
        (first
          | (go_at_call 27; refine HCALL.out.mono ?_; rintro e w2 ⟨rfl, hmem, hon⟩)
          | (go_at_call 43; refine (not_any dd M.s _ (by omega)).mono ?_; rintro e w3 ⟨rfl, rfl⟩)))
    | fail
  have HM2 := hide hmem
  have HON := hide hon
  clear hmem hon a0 a1 n0 n1 n2 n3 m0 m1 m2 m3 k0 k1 k2 k3
  go_wp2
  go_ret
  obtain ⟨n', hn', hm'⟩ := HM2.out
  exact Dayd.of ⟨ret_int (by rw [← HDE.out]), ⟨n', by omega, hm'⟩, (Only.below HBL.out).drew.trans HON.out (fun _ _ h => h)⟩
end Go.Proofs.YthbfjkdklnffjaaDoor
