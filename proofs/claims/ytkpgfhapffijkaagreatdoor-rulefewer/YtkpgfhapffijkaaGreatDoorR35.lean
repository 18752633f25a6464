/- Package cal: the walk of days, of Ref, Work and Not (written by gen_cef.py). -/
import Derived.Test.YtkpgfhapffijkaaGreatDoorR34
namespace Go.Proofs.YtkpgfhapffijkaaGreatDoor
open Go.ChangeShapes Go.WideShapes Go.ChangeAt Go.RowKit Go.DsMem Go.DsMk
set_option linter.unusedVariables false
theorem nthL_le (l : List Nat) (x : Int) (h : ∀ z ∈ l, z ≤ 31) : nthL l x ≤ 31 := by
  have key : ∀ i : Nat, l[i]?.getD 0 ≤ 31 := fun i => by
    by_cases hi : i < l.length
    · rw [List.getElem?_eq_getElem hi]; exact h _ (List.getElem_mem hi)
    · rw [List.getElem?_eq_none (by omega)]; decide
  unfold nthL
  split
  · exact key _
  · split
    · exact key _
    · decide
theorem below3 (w : World) (x y z : Obj) : Below w.heap.size w (((w.alloc x).alloc y).alloc z) := (((Below.refl _ _).alloc (Nat.le_refl _) _).alloc (by simp) _).alloc (by simp; omega) _
set_option maxHeartbeats 8000000 in
set_option maxRecDepth 20000 in
theorem days10 (k : Nat) (ih : DaysOk k) (no : Option Addr) (nl nc : Nat) (ko : Option Addr) (kl kc : Nat) (nm : ByteArray) (t : Nd) (M : Mo) (n : Nat) (W w : World) (B : Nat) (co : Option Addr) (cc : Nat) (cs : List (ByteArray × Nd)) (g o : Nat) (V : Nat → NVal)
    (h : Gc W w) (hp : W.heap.size ≤ B) (hc : CalsAt W co cc cs g o V) (h24 : cs.length ≤ 24) (hm : Memo cs w B n) (hM : M.ok) (hcal : calOf cs nm = some t) (hk : okD cs k t) (hn : n + (1 + costF cs k t) ≤ 100000) :
    Calls Tryz.prog 127 #[askrV co cs.length cc B, ndV 10 no nl nc ko kl kc nm, M.val] w (Dayd cs w B (n + (1 + costF cs k t)) (daysF cs M k t)) := by
  obtain ⟨b1, b2, b3, b4, b5, b6, b7, b8⟩ := isMo_bd hM
  have HIH := hide ih
  have HG := hide h
  have HC := hide hc
  have HMM := hide hm
  have HMO := hide hM
  have HK := hide hk
  clear ih h hc hm hM hk
  have hB : B < w.heap.size := HMM.out.lt
  have HCAL := hide hcal
  clear hcal
  obtain ⟨wA, hwA⟩ : ∃ wA, wA = ((w.alloc (.cells #[.slice co cs.length cc, .map (some B)] 181)).alloc (.cells #[.int .i64 10, .slice no nl nc, .slice ko kl kc, .string nm] 49)).alloc (.cells #[.int .i64 M.y, .int .i64 M.m, .int .i64 M.f, .int .i64 M.s] 222) := ⟨_, rfl⟩
  have HBX : Hid (Bxs wA w.heap.size co cs.length cc B 10 no nl nc ko kl kc nm M) := by rw [hwA]; exact Bxs.new _ _ _ _ _ _ _ _ _ _ _ _ _ _
  have HBL : Hid (Below w.heap.size w wA) := by rw [hwA]; exact below3 w _ _ _
  have HGA : Hid (Gc W wA) := HG.out.more HBL.out
  have HMA : Hid (Memo cs wA B n) := HMM.out.below HBL.out
  have HCALL := hide (named_step k HIH.out nm t M n W wA B co cc cs g o V HGA.out hp HC.out h24 HMA.out HMO.out HCAL.out HK.out hn)
  unfold askrV Mo.val moV at HCALL
  unfold askrV ndV Mo.val moV
  go_enter Tryz.func127, Tryz.ntmps127
  go_wp2_with fail
  rw [← hwA]
  clear hwA
  generalize hpp : w.heap.size = p at HBX ⊢
  obtain ⟨a0, a1, n0, n1, n2, n3, m0, m1, m2, m3⟩ := HBX.out
  refine HCALL.out.mono ?_
  rintro e w2 ⟨rfl, hmem, hon⟩
  have HMEM := hide hmem
  have HON := hide hon
  clear hmem hon
  go_wp2
  go_ret
  exact Dayd.of ⟨rfl, HMEM.out, (Only.below HBL.out).trans HON.out (fun _ _ h => h)⟩
set_option maxHeartbeats 8000000 in
set_option maxRecDepth 20000 in
theorem days5 (k : Nat) (ih : DaysOk k) (x : Int) (no : Option Addr) (nl nc : Nat) (ko : Option Addr) (kl kc : Nat) (nm : ByteArray) (t : Nd) (M : Mo) (n : Nat) (W w : World) (B : Nat) (co : Option Addr) (cc : Nat) (cs : List (ByteArray × Nd)) (g o : Nat) (V : Nat → NVal)
    (h : Gc W w) (hp : W.heap.size ≤ B) (hc : CalsAt W co cc cs g o V) (h24 : cs.length ≤ 24) (hm : Memo cs w B n) (hM : M.ok) (hcal : calOf cs nm = some t) (hr : RdI W (.slice no nl nc) [x]) (hx1 : -31 ≤ x) (hx2 : x ≤ 31) (hk : okD cs k t) (hn : n + (1 + costF cs k t) ≤ 100000) :
    Calls Tryz.prog 127 #[askrV co cs.length cc B, ndV 5 no nl nc ko kl kc nm, M.val] w (Dayd cs w B (n + (1 + costF cs k t)) (daysN M.s [(nthL (dl (daysF cs M k t)) x : Int)])) := by
  obtain ⟨b1, b2, b3, b4, b5, b6, b7, b8⟩ := isMo_bd hM
  have HIH := hide ih
  have HG := hide h
  have HC := hide hc
  have HMM := hide hm
  have HMO := hide hM
  have HK := hide hk
  clear ih h hc hm hM hk
  have hB : B < w.heap.size := HMM.out.lt
  have HCAL := hide hcal
  have HR := hide hr
  clear hcal hr
  obtain ⟨wA, hwA⟩ : ∃ wA, wA = ((w.alloc (.cells #[.slice co cs.length cc, .map (some B)] 181)).alloc (.cells #[.int .i64 5, .slice no nl nc, .slice ko kl kc, .string nm] 49)).alloc (.cells #[.int .i64 M.y, .int .i64 M.m, .int .i64 M.f, .int .i64 M.s] 222) := ⟨_, rfl⟩
  have HBX : Hid (Bxs wA w.heap.size co cs.length cc B 5 no nl nc ko kl kc nm M) := by rw [hwA]; exact Bxs.new _ _ _ _ _ _ _ _ _ _ _ _ _ _
  have HBL : Hid (Below w.heap.size w wA) := by rw [hwA]; exact below3 w _ _ _
  have HGA : Hid (Gc W wA) := HG.out.more HBL.out
  have HMA : Hid (Memo cs wA B n) := HMM.out.below HBL.out
  have HCALL := hide (named_step k HIH.out nm t M n W wA.drew B co cc cs g o V HGA.out.drew hp HC.out h24 (HMA.out.below (Below.refl _ _).drew) HMO.out HCAL.out HK.out hn)
  unfold askrV Mo.val moV at HCALL
  have HRA := hide (HR.out.below HGA.out.below)
  unfold askrV ndV Mo.val moV
  go_enter Tryz.func127, Tryz.ntmps127
  go_wp2
  rw [← hwA]
  clear hwA
  generalize hpp : w.heap.size = p at HBX ⊢
  obtain ⟨a0, a1, n0, n1, n2, n3, m0, m1, m2, m3⟩ := HBX.out
  obtain ⟨xa, rfl⟩ : ∃ a, no = some a := by
    obtain ⟨ao, cap, hv, _, hnil, _⟩ := HRA.out
    cases no with
    | none => simp at hv; obtain ⟨rfl, hl, _⟩ := hv; have := hnil rfl; simp at this
    | some a => exact ⟨a, rfl⟩
  obtain rfl : nl = 1 := by obtain ⟨ao, cap, hv, _⟩ := HR.out; simp at hv; exact hv.2.1
  have xc0 := rd1 HRA.out
  have xcW := rd1 HR.out
  obtain ⟨xg, xo, xs⟩ := xa
  have hpl := plain_addr xc0
  simp only [Addr.mk.injEq, true_and] at hpl
  subst hpl
  have hxB : ¬ xg = B := fun e => by have := World.block_lt_of_cell? W _ xcW; simp at this; omega
  have KPO : Hid (∀ w', Only (· = B) wA.drew w' → w'.cell? ⟨p, 0, none⟩ = some (.slice co cs.length cc) ∧ w'.cell? ⟨p, 1, none⟩ = some (.map (some B)) ∧ w'.cell? ⟨p + 1, 1, none⟩ = some (.slice (some ⟨xg, xo, none⟩) 1 nc) ∧ w'.cell? ⟨p + 1, 3, none⟩ = some (.string nm) ∧ w'.cell? ⟨p + 2, 0, none⟩ = some (.int .i64 M.y) ∧ w'.cell? ⟨p + 2, 1, none⟩ = some (.int .i64 M.m) ∧ w'.cell? ⟨p + 2, 2, none⟩ = some (.int .i64 M.f) ∧ w'.cell? ⟨p + 2, 3, none⟩ = some (.int .i64 M.s) ∧ w'.cell? ⟨xg, xo, none⟩ = some (.int .i64 x)) := fun w' ho => by
    have hx := (HBX.out.below (Below.refl _ _).drew).only ho (by omega)
    exact ⟨hx.a0, hx.a1, hx.n1, hx.n3, hx.m0, hx.m1, hx.m2, hx.m3, ho.cell (w := wA.drew) xc0 hxB⟩
  have KPG : Hid (∀ w2 w', Only (· = B) wA.drew w2 → Below w2.heap.size w2 w' → w'.cell? ⟨p, 0, none⟩ = some (.slice co cs.length cc) ∧ w'.cell? ⟨p, 1, none⟩ = some (.map (some B)) ∧ w'.cell? ⟨p + 1, 1, none⟩ = some (.slice (some ⟨xg, xo, none⟩) 1 nc) ∧ w'.cell? ⟨p + 1, 3, none⟩ = some (.string nm) ∧ w'.cell? ⟨p + 2, 0, none⟩ = some (.int .i64 M.y) ∧ w'.cell? ⟨p + 2, 1, none⟩ = some (.int .i64 M.m) ∧ w'.cell? ⟨p + 2, 2, none⟩ = some (.int .i64 M.f) ∧ w'.cell? ⟨p + 2, 3, none⟩ = some (.int .i64 M.s) ∧ w'.cell? ⟨xg, xo, none⟩ = some (.int .i64 x)) := fun w2 w' ho hb => by
    obtain ⟨c1, c2, c3, c4, c5, c6, c7, c8, c9⟩ := KPO.out w2 ho
    exact ⟨Below.keeps hb (Nat.le_refl _) c1, Below.keeps hb (Nat.le_refl _) c2, Below.keeps hb (Nat.le_refl _) c3, Below.keeps hb (Nat.le_refl _) c4, Below.keeps hb (Nat.le_refl _) c5, Below.keeps hb (Nat.le_refl _) c6, Below.keeps hb (Nat.le_refl _) c7, Below.keeps hb (Nat.le_refl _) c8, Below.keeps hb (Nat.le_refl _) c9⟩
  have hdl := daysF_lt cs M k t
  generalize hde : daysF cs M k t = dd at *
  have HDE := hide hde
  obtain ⟨nn, hnn⟩ : ∃ nn, nthL (dl dd) x = nn := ⟨_, rfl⟩
  have HNN := hide hnn
  have hnn31 : nn ≤ 31 := by rw [← hnn]; exact nthL_le _ _ (fun z hz => (dl_pos dd z hz).2)
  clear hde hnn hxB
  first
    | (go_region_held3 (fun w' => w'.cell? ⟨p, 0, none⟩ = some (.slice co cs.length cc) ∧ w'.cell? ⟨p, 1, none⟩ = some (.map (some B)) ∧ w'.cell? ⟨p + 1, 1, none⟩ = some (.slice (some ⟨xg, xo, none⟩) 1 nc) ∧ w'.cell? ⟨p + 1, 3, none⟩ = some (.string nm) ∧ w'.cell? ⟨p + 2, 0, none⟩ = some (.int .i64 M.y) ∧ w'.cell? ⟨p + 2, 1, none⟩ = some (.int .i64 M.m) ∧ w'.cell? ⟨p + 2, 2, none⟩ = some (.int .i64 M.f) ∧ w'.cell? ⟨p + 2, 3, none⟩ = some (.int .i64 M.s) ∧ w'.cell? ⟨xg, xo, none⟩ = some (.int .i64 x))
        (first | go_keep | (exact KPO.out _ (by assumption)) | (exact KPG.out _ _ (by assumption) (by assumption)) | (exact KPG.out _ _ (by assumption) (Below.alloc (by assumption) (Below.size (by assumption)) _)))
        (first
          | (go_at_call 154; refine HCALL.out.mono ?_; rintro e w2 ⟨rfl, hmem, hon⟩)
          | (go_at_call 155; refine (Gd.nth (W := w2) (Only.gc HGA.out.drew hon hp).here.gd dd x (by omega) (by omega) (by omega) HNN.out).mono ?_; rintro e w3 ⟨rfl, hgn⟩; have hb3 := hgn.below)
          | (go_at_call 152; refine (mlist_any [(nn : Int)] M.s _ _ (by exact rdi_one _ _) (by simp) (by omega) (by omega) (by intro q hq; simp at hq; subst hq; omega)).mono ?_; rintro e w4 ⟨rfl, rfl⟩)))
    | fail
  obtain ⟨n', hn', hm'⟩ := hmem
  have HM2 := hide hm'
  have HN2 := hide hn'
  have HON := hide hon
  have HB3 := hide hb3
  clear hm' hn' hon hb3 hgn a0 a1 n0 n1 n2 n3 m0 m1 m2 m3 xc0 xcW
  go_wp2
  go_ret
  have hbz := HB3.out.alloc HB3.out.size (.cells #[.int .i64 (nn : Int)] 2)
  exact Dayd.of ⟨ret_int (by rw [← HNN.out, ← HDE.out]), ⟨n', HN2.out, HM2.out.below hbz⟩, (Only.below HBL.out).drew.trans (HON.out.trans (Only.below hbz) (fun _ _ h => h)) (fun _ _ h => h)⟩
set_option maxHeartbeats 8000000 in
set_option maxRecDepth 20000 in
theorem days9 (k : Nat) (ih : DaysOk k) (kv : NVal) (kg kO : Nat) (no : Option Addr) (nl nc : Nat) (ko : Option Addr) (kl kc : Nat) (nm : ByteArray) (t : Nd) (M : Mo) (n : Nat) (W w : World) (B : Nat) (co : Option Addr) (cc : Nat) (cs : List (ByteArray × Nd)) (g o : Nat) (V : Nat → NVal)
    (h : Gc W w) (hp : W.heap.size ≤ B) (hc : CalsAt W co cc cs g o V) (h24 : cs.length ≤ 24) (hm : Memo cs w B n) (hM : M.ok) (hko : ko = some ⟨kg, kO, none⟩) (hkl : kl = 1) (hkc : kl ≤ kc) (hin : NIn W kg kO kv) (hnd : NdAt W kv t) (hk : okD cs k t) (hn : n + (1 + costF cs k t) ≤ 100000) :
    Calls Tryz.prog 127 #[askrV co cs.length cc B, ndV 9 no nl nc ko kl kc nm, M.val] w (Dayd cs w B (n + (1 + costF cs k t)) (difN (allN M.s) (daysF cs M k t))) := by
  obtain ⟨b1, b2, b3, b4, b5, b6, b7, b8⟩ := isMo_bd hM
  have HIH := hide ih
  have HG := hide h
  have HC := hide hc
  have HMM := hide hm
  have HMO := hide hM
  have HK := hide hk
  clear ih h hc hm hM hk
  have hB : B < w.heap.size := HMM.out.lt
  have HIN := hide hin
  have HND := hide hnd
  clear hin hnd
  obtain ⟨wA, hwA⟩ : ∃ wA, wA = ((w.alloc (.cells #[.slice co cs.length cc, .map (some B)] 181)).alloc (.cells #[.int .i64 9, .slice no nl nc, .slice ko kl kc, .string nm] 49)).alloc (.cells #[.int .i64 M.y, .int .i64 M.m, .int .i64 M.f, .int .i64 M.s] 222) := ⟨_, rfl⟩
  have HBX : Hid (Bxs wA w.heap.size co cs.length cc B 9 no nl nc ko kl kc nm M) := by rw [hwA]; exact Bxs.new _ _ _ _ _ _ _ _ _ _ _ _ _ _
  have HBL : Hid (Below w.heap.size w wA) := by rw [hwA]; exact below3 w _ _ _
  have HGA : Hid (Gc W wA) := HG.out.more HBL.out
  have HMA : Hid (Memo cs wA B n) := HMM.out.below HBL.out
  have HCALL := hide (HIH.out t kv M n W wA.drew B co cc cs g o V HGA.out.drew hp HND.out HC.out h24 (HMA.out.below (Below.refl _ _).drew) HMO.out HK.out (by omega))
  unfold askrV NVal.val ndV Mo.val moV at HCALL
  subst hko hkl
  obtain ⟨k0, k1, k2, k3⟩ := HIN.out.mono (fun a u hc => Below.keeps HGA.out.below (Nat.le_refl _) hc)
  unfold askrV ndV Mo.val moV
  go_enter Tryz.func127, Tryz.ntmps127
  go_wp2
  rw [← hwA]
  clear hwA
  generalize hpp : w.heap.size = p at HBX ⊢
  obtain ⟨a0, a1, n0, n1, n2, n3, m0, m1, m2, m3⟩ := HBX.out
  have hkB : ¬ kg = B := fun e => by have := World.block_lt_of_cell? W _ HIN.out.c0; simp at this; omega
  have KPO : Hid (∀ w', Only (· = B) wA.drew w' → w'.cell? ⟨p, 0, none⟩ = some (.slice co cs.length cc) ∧ w'.cell? ⟨p, 1, none⟩ = some (.map (some B)) ∧ w'.cell? ⟨p + 1, 2, none⟩ = some (.slice (some ⟨kg, kO, none⟩) 1 kc) ∧ w'.cell? ⟨p + 2, 0, none⟩ = some (.int .i64 M.y) ∧ w'.cell? ⟨p + 2, 1, none⟩ = some (.int .i64 M.m) ∧ w'.cell? ⟨p + 2, 2, none⟩ = some (.int .i64 M.f) ∧ w'.cell? ⟨p + 2, 3, none⟩ = some (.int .i64 M.s) ∧ w'.cell? ⟨kg, kO, none⟩ = some (.int .i64 kv.op) ∧ w'.cell? ⟨kg, kO + 1, none⟩ = some (.slice kv.no kv.nl kv.nc) ∧ w'.cell? ⟨kg, kO + 2, none⟩ = some (.slice kv.ko kv.kl kv.kc) ∧ w'.cell? ⟨kg, kO + 3, none⟩ = some (.string kv.nm)) := fun w' ho => by
    have hx := (HBX.out.below (Below.refl _ _).drew).only ho (by omega)
    exact ⟨hx.a0, hx.a1, hx.n2, hx.m0, hx.m1, hx.m2, hx.m3, ho.cell (w := wA.drew) k0 hkB, ho.cell (w := wA.drew) k1 hkB, ho.cell (w := wA.drew) k2 hkB, ho.cell (w := wA.drew) k3 hkB⟩
  have hdl := daysF_lt cs M k t
  generalize hde : daysF cs M k t = dd at *
  have HDE := hide hde
  clear hde hkB
  first
    | (go_region_held3 (fun w' => w'.cell? ⟨p, 0, none⟩ = some (.slice co cs.length cc) ∧ w'.cell? ⟨p, 1, none⟩ = some (.map (some B)) ∧ w'.cell? ⟨p + 1, 2, none⟩ = some (.slice (some ⟨kg, kO, none⟩) 1 kc) ∧ w'.cell? ⟨p + 2, 0, none⟩ = some (.int .i64 M.y) ∧ w'.cell? ⟨p + 2, 1, none⟩ = some (.int .i64 M.m) ∧ w'.cell? ⟨p + 2, 2, none⟩ = some (.int .i64 M.f) ∧ w'.cell? ⟨p + 2, 3, none⟩ = some (.int .i64 M.s) ∧ w'.cell? ⟨kg, kO, none⟩ = some (.int .i64 kv.op) ∧ w'.cell? ⟨kg, kO + 1, none⟩ = some (.slice kv.no kv.nl kv.nc) ∧ w'.cell? ⟨kg, kO + 2, none⟩ = some (.slice kv.ko kv.kl kv.kc) ∧ w'.cell? ⟨kg, kO + 3, none⟩ = some (.string kv.nm))
        (first | go_keep | (exact KPO.out _ (by assumption)))
        (first
          | (go_at_call 127; refine HCALL.out.mono ?_; rintro e w2 ⟨rfl, hmem, hon⟩)
          | (go_at_call 158; refine (not_any dd M.s _ (by omega)).mono ?_; rintro e w3 ⟨rfl, rfl⟩)))
    | fail
  have HM2 := hide hmem
  have HON := hide hon
  clear hmem hon a0 a1 n0 n1 n2 n3 m0 m1 m2 m3 k0 k1 k2 k3
  go_wp2
  go_ret
  obtain ⟨n', hn', hm'⟩ := HM2.out
  exact Dayd.of ⟨ret_int (by rw [← HDE.out]), ⟨n', by omega, hm'⟩, (Only.below HBL.out).drew.trans HON.out (fun _ _ h => h)⟩
end Go.Proofs.YtkpgfhapffijkaaGreatDoor

/- Package cal: the walk of joined (written by gen_ceg.py). -/
namespace Go.Proofs.YtkpgfhapffijkaaGreatDoor
open Go.ChangeShapes Go.WideShapes Go.ChangeAt Go.RowKit Go.DsMem Go.DsMk
set_option linter.unusedVariables false
def MemoLe (cs : List (ByteArray × Nd)) (w : World) (B m : Nat) : Prop := ∃ n', n' ≤ m ∧ Memo cs w B n'
def costL (cs : List (ByteArray × Nd)) (k : Nat) (l : List Nd) : Nat := l.foldl (fun a c => a + costF cs k c) 1
theorem costL_snoc (cs : List (ByteArray × Nd)) (k : Nat) (l : List Nd) (c : Nd) : costL cs k (l ++ [c]) = costL cs k l + costF cs k c := by unfold costL; rw [List.foldl_append]; rfl
theorem costL_take (cs : List (ByteArray × Nd)) (k : Nat) (l : List Nd) (i : Nat) : costL cs k (l.take i) ≤ costL cs k l := by
  have e : costL cs k l = (l.drop i).foldl (fun a c => a + costF cs k c) (costL cs k (l.take i)) := by unfold costL; rw [← List.foldl_append, List.take_append_drop]
  rw [e]
  exact foldl_keep (fun a b : Nat => a ≤ b) (fun _ => Nat.le_refl _) (fun _ _ _ => Nat.le_trans) _ _ (fun a c _ => Nat.le_add_right _ _) _
def joinL7 (cs : List (ByteArray × Nd)) (M : Mo) (k : Nat) (c : Nd) (l : List Nd) : Nat := l.foldl (fun a c => a &&& daysF cs M k c) (daysF cs M k c)
theorem joinL7_lt (cs : List (ByteArray × Nd)) (M : Mo) (k : Nat) (c : Nd) (l : List Nd) : joinL7 cs M k c l < 2147483648 :=
  foldl_keep (fun a b : Nat => a < 2147483648 → b < 2147483648) (fun _ h => h) (fun _ _ _ h1 h2 h => h2 (h1 h)) _ _ (fun a c _ ha => Nat.lt_of_le_of_lt Nat.and_le_left ha) _ (daysF_lt cs M k c)
set_option maxHeartbeats 8000000 in
set_option maxRecDepth 20000 in
theorem joined7 (k : Nat) (ih : DaysOk k) (c0 : Nd) (rest : List Nd) (K : Nat → NVal) (kg kO : Nat) (no : Option Addr) (nl nc : Nat) (kc : Nat) (nm : ByteArray) (M : Mo) (n : Nat) (W w : World) (B : Nat) (co : Option Addr) (cc : Nat) (cs : List (ByteArray × Nd)) (g o : Nat) (V : Nat → NVal)
    (h : Gc W w) (hp : W.heap.size ≤ B) (hc : CalsAt W co cc cs g o V) (h24 : cs.length ≤ 24) (hm : Memo cs w B n) (hM : M.ok) (hkl : rest.length ≤ 7) (hkc : rest.length + 1 ≤ kc)
    (hin : ∀ j, j < rest.length + 1 → NIn W kg (kO + j * 4) (K j)) (hnd0 : NdAt W (K 0) c0) (hnd : ∀ j (hj : j < rest.length), NdAt W (K (j + 1)) rest[j]) (hk0 : okD cs k c0) (hk : ∀ c ∈ rest, okD cs k c) (hn : n + costL cs k (c0 :: rest) ≤ 100000) :
    Calls Tryz.prog 157 #[askrV co cs.length cc B, ndV 7 no nl nc (some ⟨kg, kO, none⟩) (rest.length + 1) kc nm, M.val] w (Dayd cs w B (n + costL cs k (c0 :: rest)) (joinL7 cs M k c0 rest)) := by
  have HIH := hide ih
  have HG := hide h
  have HC := hide hc
  have HMM := hide hm
  have HMO := hide hM
  have HK0 := hide hk0
  have HK := hide hk
  have HIN := hide hin
  have HND := hide hnd
  have HND0 := hide hnd0
  clear ih h hc hm hM hk0 hk hin hnd hnd0
  have hB : B < w.heap.size := HMM.out.lt
  have HC0 : Hid (costL cs k [c0] = 1 + costF cs k c0) := rfl
  have hct := costL_take cs k (c0 :: rest) 1
  obtain ⟨wA, hwA⟩ : ∃ wA, wA = ((w.alloc (.cells #[.slice co cs.length cc, .map (some B)] 181)).alloc (.cells #[.int .i64 7, .slice no nl nc, .slice (some ⟨kg, kO, none⟩) (rest.length + 1) kc, .string nm] 49)).alloc (.cells #[.int .i64 M.y, .int .i64 M.m, .int .i64 M.f, .int .i64 M.s] 222) := ⟨_, rfl⟩
  have HBX : Hid (Bxs wA w.heap.size co cs.length cc B 7 no nl nc (some ⟨kg, kO, none⟩) (rest.length + 1) kc nm M) := by rw [hwA]; exact Bxs.new _ _ _ _ _ _ _ _ _ _ _ _ _ _
  have HBL : Hid (Below w.heap.size w wA) := by rw [hwA]; exact below3 w _ _ _
  have HGA : Hid (Gc W wA) := HG.out.more HBL.out
  have HMA : Hid (Memo cs wA B n) := HMM.out.below HBL.out
  have HCALL := hide (HIH.out c0 (K 0) M n W wA.drew B co cc cs g o V HGA.out.drew hp HND0.out HC.out h24 (HMA.out.below (Below.refl _ _).drew) HMO.out HK0.out (by have := HC0.out; simp only [List.take_succ_cons, List.take_zero] at hct; omega))
  unfold askrV NVal.val ndV Mo.val moV at HCALL
  obtain ⟨k0, k1, k2, k3⟩ := (HIN.out 0 (by omega)).mono (fun a u hc => Below.keeps HGA.out.below (Nat.le_refl _) hc)
  have z0 : kO + 0 * 4 = kO := by omega
  rw [z0] at k0 k1 k2 k3
  have hkgW : kg < W.heap.size := World.block_lt_of_cell? W _ (HIN.out 0 (by omega)).c0
  clear z0
  unfold askrV ndV Mo.val moV
  go_enter Tryz.func157, Tryz.ntmps157
  go_wp2
  rw [← hwA]
  clear hwA
  generalize hpp : w.heap.size = p at HBX ⊢
  obtain ⟨a0, a1, n0, n1, n2, n3, m0, m1, m2, m3⟩ := HBX.out
  have hkB : ¬ kg = B := by omega
  have hkl1 : (0 : Int) < ((rest.length + 1 : Nat) : Int) := by omega
  generalize hkv : K 0 = kv at *
  have KPO : Hid (∀ w', Only (· = B) wA.drew w' → w'.cell? ⟨p, 0, none⟩ = some (.slice co cs.length cc) ∧ w'.cell? ⟨p, 1, none⟩ = some (.map (some B)) ∧ w'.cell? ⟨p + 1, 2, none⟩ = some (.slice (some ⟨kg, kO, none⟩) (rest.length + 1) kc) ∧ w'.cell? ⟨p + 2, 0, none⟩ = some (.int .i64 M.y) ∧ w'.cell? ⟨p + 2, 1, none⟩ = some (.int .i64 M.m) ∧ w'.cell? ⟨p + 2, 2, none⟩ = some (.int .i64 M.f) ∧ w'.cell? ⟨p + 2, 3, none⟩ = some (.int .i64 M.s) ∧ w'.cell? ⟨kg, kO, none⟩ = some (.int .i64 kv.op) ∧ w'.cell? ⟨kg, kO + 1, none⟩ = some (.slice kv.no kv.nl kv.nc) ∧ w'.cell? ⟨kg, kO + 2, none⟩ = some (.slice kv.ko kv.kl kv.kc) ∧ w'.cell? ⟨kg, kO + 3, none⟩ = some (.string kv.nm)) := fun w' ho => by
    have hx := (HBX.out.below (Below.refl _ _).drew).only ho (by omega)
    exact ⟨hx.a0, hx.a1, hx.n2, hx.m0, hx.m1, hx.m2, hx.m3, ho.cell (w := wA.drew) k0 hkB, ho.cell (w := wA.drew) k1 hkB, ho.cell (w := wA.drew) k2 hkB, ho.cell (w := wA.drew) k3 hkB⟩
  first
    | (go_region_held3 (fun w' => w'.cell? ⟨p, 0, none⟩ = some (.slice co cs.length cc) ∧ w'.cell? ⟨p, 1, none⟩ = some (.map (some B)) ∧ w'.cell? ⟨p + 1, 2, none⟩ = some (.slice (some ⟨kg, kO, none⟩) (rest.length + 1) kc) ∧ w'.cell? ⟨p + 2, 0, none⟩ = some (.int .i64 M.y) ∧ w'.cell? ⟨p + 2, 1, none⟩ = some (.int .i64 M.m) ∧ w'.cell? ⟨p + 2, 2, none⟩ = some (.int .i64 M.f) ∧ w'.cell? ⟨p + 2, 3, none⟩ = some (.int .i64 M.s) ∧ w'.cell? ⟨kg, kO, none⟩ = some (.int .i64 kv.op) ∧ w'.cell? ⟨kg, kO + 1, none⟩ = some (.slice kv.no kv.nl kv.nc) ∧ w'.cell? ⟨kg, kO + 2, none⟩ = some (.slice kv.ko kv.kl kv.kc) ∧ w'.cell? ⟨kg, kO + 3, none⟩ = some (.string kv.nm))
        (first | go_keep | (exact KPO.out _ (by assumption)))
        ((go_at_call 127; refine HCALL.out.mono ?_; rintro e w2 ⟨rfl, hmem, hon⟩)))
    | fail
  have HM2 := hide hmem
  have HON := hide hon
  clear hmem hon a0 a1 n0 n1 n2 n3 m0 m1 m2 m3 k0 k1 k2 k3
  obtain ⟨a0, a1, n2, m0, m1, m2, m3, -⟩ := KPO.out w2 HON.out
  have HJ2 : Hid (MemoLe cs w2 B (n + costL cs k [c0])) := by
    obtain ⟨n', h1, h2⟩ := HM2.out
    exact ⟨n', by have := HC0.out; omega, h2⟩
  have HOW : Hid (Only (· = B) w w2) := (Only.below HBL.out).drew.trans HON.out (fun _ _ h => h)
  by_cases hk1 : kc = 1
  · obtain rfl : rest = [] := List.eq_nil_of_length_eq_zero (by omega)
    subst hk1
    go_wp2
    refine wp_loop_rounds 1 ?_
    rw [rounds_succ]
    go_wp2
    go_ret
    obtain ⟨n', h1, h2⟩ := HJ2.out
    exact Dayd.of ⟨rfl, ⟨n', h1, h2⟩, HOW.out⟩
  go_wp2
  have BXS : Hid (∀ w', Only (· = B) w2 w' → Bxs w' p co cs.length cc B 7 no nl nc (some ⟨kg, kO, none⟩) (rest.length + 1) kc nm M) := fun w' ho => (HBX.out.below (Below.refl _ _).drew).only (HON.out.trans ho (fun _ _ h => h)) (by omega)
  have HGC2 : Hid (∀ w', Only (· = B) w2 w' → Gc W w') := fun w' ho => Only.gc (Only.gc HGA.out.drew HON.out hp) ho hp
  clear a0 a1 n2 m0 m1 m2 m3
  go_loopw [7, 21] (fun d t wr => ∃ i : Nat, i ≤ rest.length ∧ t = .int .i64 i ∧ d = .int .u32 (joinL7 cs M k c0 (rest.take i)) ∧ MemoLe cs wr B (n + costL cs k (c0 :: rest.take i)) ∧ Only (· = B) w2 wr) (fun _ t _ => rest.length - (intOf t).toNat)
  case atStart => exact ⟨0, Nat.zero_le _, rfl, rfl, HJ2.out, Only.refl _ _⟩
  case round =>
    obtain ⟨i, hi, rfl, rfl, hml, hon⟩ := hrel
    have HML := hide hml
    have HONr := hide hon
    clear hml hon
    obtain ⟨a0, a1, n0, n1, n2, n3, m0, m1, m2, m3⟩ := BXS.out wr HONr.out
    by_cases hlt : i < rest.length
    · have HGr := hide (HGC2.out wr HONr.out)
      have HTK : Hid (rest.take (i + 1) = rest.take i ++ [rest[i]]) := List.take_succ_eq_append_getElem hlt
      have HKI := hide (HK.out rest[i] (List.getElem_mem hlt))
      have HNDi := hide (HND.out i hlt)
      have hin := (HIN.out (i + 1) (by omega)).mono (fun a u hc => Below.keeps HGr.out.below (Nat.le_refl _) hc)
      rw [show kO + (i + 1) * 4 = kO + 4 + i * 4 by omega] at hin
      obtain ⟨k0, k1, k2, k3⟩ := hin
      have HCT : Hid (costL cs k (c0 :: rest.take (i + 1)) = costL cs k (c0 :: rest.take i) + costF cs k rest[i]) := by show _ = _; rw [HTK.out, ← List.cons_append, costL_snoc]
      have hct2 := costL_take cs k (c0 :: rest) (i + 2)
      rw [List.take_succ_cons] at hct2
      have HJT : Hid (joinL7 cs M k c0 (rest.take (i + 1)) = joinL7 cs M k c0 (rest.take i) &&& daysF cs M k rest[i]) := by show _ = _; rw [HTK.out]; unfold joinL7; rw [List.foldl_append]; rfl
      have hjl := joinL7_lt cs M k c0 (rest.take i)
      have hdl := daysF_lt cs M k rest[i]
      generalize rest[i] = ct at *
      generalize K (i + 1) = kw at *
      obtain ⟨nr, hnr, hmr⟩ := HML.out
      have HMR := hide hmr
      have HNR := hide hnr
      clear hmr hnr
      obtain ⟨wC, hwC⟩ : ∃ wC, wC = wr.alloc (.cells #[.int .i64 kw.op, .slice kw.no kw.nl kw.nc, .slice kw.ko kw.kl kw.kc, .string kw.nm] 49) := ⟨_, rfl⟩
      have HBC : Hid (Below wr.heap.size wr wC) := by rw [hwC]; exact (Below.refl _ _).alloc (Nat.le_refl _) _
      have HCALL2 := hide (HIH.out ct kw M nr W wC B co cc cs g o V (HGr.out.more HBC.out) hp HNDi.out HC.out h24 (HMR.out.below HBC.out) HMO.out HKI.out (by have := HCT.out; have := HNR.out; omega))
      unfold askrV NVal.val ndV Mo.val moV at HCALL2
      have ebit := and32 (joinL7 cs M k c0 (rest.take i)) (daysF cs M k ct) (by omega) (by omega)
      have hpr : p + 2 < wr.heap.size := World.block_lt_of_cell? wr _ m0
      have hpr0 : p < wr.heap.size := by omega
      have hpr1 : p + 1 < wr.heap.size := by omega
      have hpr2 : p + 1 + 1 < wr.heap.size := by omega
      have ne0 : ¬ p = wr.heap.size := by omega
      have ne3 : ¬ p + 1 + 1 = wr.heap.size := by omega
      have m0' : wr.cell? ⟨p + 1 + 1, 0, none⟩ = some (.int .i64 M.y) := m0
      have m1' : wr.cell? ⟨p + 1 + 1, 1, none⟩ = some (.int .i64 M.m) := m1
      have m2' : wr.cell? ⟨p + 1 + 1, 2, none⟩ = some (.int .i64 M.f) := m2
      have m3' : wr.cell? ⟨p + 1 + 1, 3, none⟩ = some (.int .i64 M.s) := m3
      have ne1 : ¬ p + 1 = wr.heap.size := by omega
      have ne2 : ¬ p + 2 = wr.heap.size := by omega
      generalize hJe : joinL7 cs M k c0 (rest.take i) = J at *
      generalize hDe : daysF cs M k ct = Dd at *
      clear hJe hDe
      go_wp2_with fail
      rw [← hwC]
      refine HCALL2.out.mono ?_
      rintro e w3 ⟨rfl, hmem3, hon3⟩
      have HM3 : Hid (MemoLe cs w3 B (n + costL cs k (c0 :: rest.take (i + 1)))) := by
        obtain ⟨n3', h1, h2⟩ := hmem3
        exact ⟨n3', by have := HCT.out; have := HNR.out; omega, h2⟩
      have HON3 : Hid (Only (· = B) w2 w3) := HONr.out.trans ((Only.below HBC.out).trans hon3 (fun _ _ h => h)) (fun _ _ h => h)
      clear hmem3 hon3 hwC m0' m1' m2' m3' a0 a1 n0 n1 n2 n3 m0 m1 m2 m3 k0 k1 k2 k3
      go_wp2
      go_roundw
      case rel => exact ⟨i + 1, by omega, by go_num, by rw [HJT.out], HM3.out, HON3.out⟩
      case measure => simp [intOf]; omega
    · have HE : Hid (rest.take i = rest) := List.take_of_length_le (by omega)
      go_wp2
      go_ret
      obtain ⟨nr, hnr, hmr⟩ := HML.out
      rw [HE.out] at hnr
      exact Dayd.of ⟨ret_int (by rw [HE.out]), ⟨nr, hnr, hmr⟩, HOW.out.trans HONr.out (fun _ _ h => h)⟩
def joinL8 (cs : List (ByteArray × Nd)) (M : Mo) (k : Nat) (c : Nd) (l : List Nd) : Nat := l.foldl (fun a c => a ||| daysF cs M k c) (daysF cs M k c)
theorem joinL8_lt (cs : List (ByteArray × Nd)) (M : Mo) (k : Nat) (c : Nd) (l : List Nd) : joinL8 cs M k c l < 2147483648 :=
  foldl_keep (fun a b : Nat => a < 2147483648 → b < 2147483648) (fun _ h => h) (fun _ _ _ h1 h2 h => h2 (h1 h)) _ _ (fun a c _ ha => Nat.or_lt_two_pow (n := 31) ha (daysF_lt cs M k c)) _ (daysF_lt cs M k c)
set_option maxHeartbeats 8000000 in
set_option maxRecDepth 20000 in
theorem joined8 (k : Nat) (ih : DaysOk k) (c0 : Nd) (rest : List Nd) (K : Nat → NVal) (kg kO : Nat) (no : Option Addr) (nl nc : Nat) (kc : Nat) (nm : ByteArray) (M : Mo) (n : Nat) (W w : World) (B : Nat) (co : Option Addr) (cc : Nat) (cs : List (ByteArray × Nd)) (g o : Nat) (V : Nat → NVal)
    (h : Gc W w) (hp : W.heap.size ≤ B) (hc : CalsAt W co cc cs g o V) (h24 : cs.length ≤ 24) (hm : Memo cs w B n) (hM : M.ok) (hkl : rest.length ≤ 7) (hkc : rest.length + 1 ≤ kc)
    (hin : ∀ j, j < rest.length + 1 → NIn W kg (kO + j * 4) (K j)) (hnd0 : NdAt W (K 0) c0) (hnd : ∀ j (hj : j < rest.length), NdAt W (K (j + 1)) rest[j]) (hk0 : okD cs k c0) (hk : ∀ c ∈ rest, okD cs k c) (hn : n + costL cs k (c0 :: rest) ≤ 100000) :
    Calls Tryz.prog 157 #[askrV co cs.length cc B, ndV 8 no nl nc (some ⟨kg, kO, none⟩) (rest.length + 1) kc nm, M.val] w (Dayd cs w B (n + costL cs k (c0 :: rest)) (joinL8 cs M k c0 rest)) := by
  have HIH := hide ih
  have HG := hide h
  have HC := hide hc
  have HMM := hide hm
  have HMO := hide hM
  have HK0 := hide hk0
  have HK := hide hk
  have HIN := hide hin
  have HND := hide hnd
  have HND0 := hide hnd0
  clear ih h hc hm hM hk0 hk hin hnd hnd0
  have hB : B < w.heap.size := HMM.out.lt
  have HC0 : Hid (costL cs k [c0] = 1 + costF cs k c0) := rfl
  have hct := costL_take cs k (c0 :: rest) 1
  obtain ⟨wA, hwA⟩ : ∃ wA, wA = ((w.alloc (.cells #[.slice co cs.length cc, .map (some B)] 181)).alloc (.cells #[.int .i64 8, .slice no nl nc, .slice (some ⟨kg, kO, none⟩) (rest.length + 1) kc, .string nm] 49)).alloc (.cells #[.int .i64 M.y, .int .i64 M.m, .int .i64 M.f, .int .i64 M.s] 222) := ⟨_, rfl⟩
  have HBX : Hid (Bxs wA w.heap.size co cs.length cc B 8 no nl nc (some ⟨kg, kO, none⟩) (rest.length + 1) kc nm M) := by rw [hwA]; exact Bxs.new _ _ _ _ _ _ _ _ _ _ _ _ _ _
  have HBL : Hid (Below w.heap.size w wA) := by rw [hwA]; exact below3 w _ _ _
  have HGA : Hid (Gc W wA) := HG.out.more HBL.out
  have HMA : Hid (Memo cs wA B n) := HMM.out.below HBL.out
  have HCALL := hide (HIH.out c0 (K 0) M n W wA.drew B co cc cs g o V HGA.out.drew hp HND0.out HC.out h24 (HMA.out.below (Below.refl _ _).drew) HMO.out HK0.out (by have := HC0.out; simp only [List.take_succ_cons, List.take_zero] at hct; omega))
  unfold askrV NVal.val ndV Mo.val moV at HCALL
  obtain ⟨k0, k1, k2, k3⟩ := (HIN.out 0 (by omega)).mono (fun a u hc => Below.keeps HGA.out.below (Nat.le_refl _) hc)
  have z0 : kO + 0 * 4 = kO := by omega
  rw [z0] at k0 k1 k2 k3
  have hkgW : kg < W.heap.size := World.block_lt_of_cell? W _ (HIN.out 0 (by omega)).c0
  clear z0
  unfold askrV ndV Mo.val moV
  go_enter Tryz.func157, Tryz.ntmps157
  go_wp2
  rw [← hwA]
  clear hwA
  generalize hpp : w.heap.size = p at HBX ⊢
  obtain ⟨a0, a1, n0, n1, n2, n3, m0, m1, m2, m3⟩ := HBX.out
  have hkB : ¬ kg = B := by omega
  have hkl1 : (0 : Int) < ((rest.length + 1 : Nat) : Int) := by omega
  generalize hkv : K 0 = kv at *
  have KPO : Hid (∀ w', Only (· = B) wA.drew w' → w'.cell? ⟨p, 0, none⟩ = some (.slice co cs.length cc) ∧ w'.cell? ⟨p, 1, none⟩ = some (.map (some B)) ∧ w'.cell? ⟨p + 1, 2, none⟩ = some (.slice (some ⟨kg, kO, none⟩) (rest.length + 1) kc) ∧ w'.cell? ⟨p + 2, 0, none⟩ = some (.int .i64 M.y) ∧ w'.cell? ⟨p + 2, 1, none⟩ = some (.int .i64 M.m) ∧ w'.cell? ⟨p + 2, 2, none⟩ = some (.int .i64 M.f) ∧ w'.cell? ⟨p + 2, 3, none⟩ = some (.int .i64 M.s) ∧ w'.cell? ⟨kg, kO, none⟩ = some (.int .i64 kv.op) ∧ w'.cell? ⟨kg, kO + 1, none⟩ = some (.slice kv.no kv.nl kv.nc) ∧ w'.cell? ⟨kg, kO + 2, none⟩ = some (.slice kv.ko kv.kl kv.kc) ∧ w'.cell? ⟨kg, kO + 3, none⟩ = some (.string kv.nm)) := fun w' ho => by
    have hx := (HBX.out.below (Below.refl _ _).drew).only ho (by omega)
    exact ⟨hx.a0, hx.a1, hx.n2, hx.m0, hx.m1, hx.m2, hx.m3, ho.cell (w := wA.drew) k0 hkB, ho.cell (w := wA.drew) k1 hkB, ho.cell (w := wA.drew) k2 hkB, ho.cell (w := wA.drew) k3 hkB⟩
  first
    | (go_region_held3 (fun w' => w'.cell? ⟨p, 0, none⟩ = some (.slice co cs.length cc) ∧ w'.cell? ⟨p, 1, none⟩ = some (.map (some B)) ∧ w'.cell? ⟨p + 1, 2, none⟩ = some (.slice (some ⟨kg, kO, none⟩) (rest.length + 1) kc) ∧ w'.cell? ⟨p + 2, 0, none⟩ = some (.int .i64 M.y) ∧ w'.cell? ⟨p + 2, 1, none⟩ = some (.int .i64 M.m) ∧ w'.cell? ⟨p + 2, 2, none⟩ = some (.int .i64 M.f) ∧ w'.cell? ⟨p + 2, 3, none⟩ = some (.int .i64 M.s) ∧ w'.cell? ⟨kg, kO, none⟩ = some (.int .i64 kv.op) ∧ w'.cell? ⟨kg, kO + 1, none⟩ = some (.slice kv.no kv.nl kv.nc) ∧ w'.cell? ⟨kg, kO + 2, none⟩ = some (.slice kv.ko kv.kl kv.kc) ∧ w'.cell? ⟨kg, kO + 3, none⟩ = some (.string kv.nm))
        (first | go_keep | (exact KPO.out _ (by assumption)))
        ((go_at_call 127; refine HCALL.out.mono ?_; rintro e w2 ⟨rfl, hmem, hon⟩)))
    | fail
  have HM2 := hide hmem
  have HON := hide hon
  clear hmem hon a0 a1 n0 n1 n2 n3 m0 m1 m2 m3 k0 k1 k2 k3
  obtain ⟨a0, a1, n2, m0, m1, m2, m3, -⟩ := KPO.out w2 HON.out
  have HJ2 : Hid (MemoLe cs w2 B (n + costL cs k [c0])) := by
    obtain ⟨n', h1, h2⟩ := HM2.out
    exact ⟨n', by have := HC0.out; omega, h2⟩
  have HOW : Hid (Only (· = B) w w2) := (Only.below HBL.out).drew.trans HON.out (fun _ _ h => h)
  by_cases hk1 : kc = 1
  · obtain rfl : rest = [] := List.eq_nil_of_length_eq_zero (by omega)
    subst hk1
    go_wp2
    refine wp_loop_rounds 1 ?_
    rw [rounds_succ]
    go_wp2
    go_ret
    obtain ⟨n', h1, h2⟩ := HJ2.out
    exact Dayd.of ⟨rfl, ⟨n', h1, h2⟩, HOW.out⟩
  go_wp2
  have BXS : Hid (∀ w', Only (· = B) w2 w' → Bxs w' p co cs.length cc B 8 no nl nc (some ⟨kg, kO, none⟩) (rest.length + 1) kc nm M) := fun w' ho => (HBX.out.below (Below.refl _ _).drew).only (HON.out.trans ho (fun _ _ h => h)) (by omega)
  have HGC2 : Hid (∀ w', Only (· = B) w2 w' → Gc W w') := fun w' ho => Only.gc (Only.gc HGA.out.drew HON.out hp) ho hp
  clear a0 a1 n2 m0 m1 m2 m3
  go_loopw [7, 21] (fun d t wr => ∃ i : Nat, i ≤ rest.length ∧ t = .int .i64 i ∧ d = .int .u32 (joinL8 cs M k c0 (rest.take i)) ∧ MemoLe cs wr B (n + costL cs k (c0 :: rest.take i)) ∧ Only (· = B) w2 wr) (fun _ t _ => rest.length - (intOf t).toNat)
  case atStart => exact ⟨0, Nat.zero_le _, rfl, rfl, HJ2.out, Only.refl _ _⟩
  case round =>
    obtain ⟨i, hi, rfl, rfl, hml, hon⟩ := hrel
    have HML := hide hml
    have HONr := hide hon
    clear hml hon
    obtain ⟨a0, a1, n0, n1, n2, n3, m0, m1, m2, m3⟩ := BXS.out wr HONr.out
    by_cases hlt : i < rest.length
    · have HGr := hide (HGC2.out wr HONr.out)
      have HTK : Hid (rest.take (i + 1) = rest.take i ++ [rest[i]]) := List.take_succ_eq_append_getElem hlt
      have HKI := hide (HK.out rest[i] (List.getElem_mem hlt))
      have HNDi := hide (HND.out i hlt)
      have hin := (HIN.out (i + 1) (by omega)).mono (fun a u hc => Below.keeps HGr.out.below (Nat.le_refl _) hc)
      rw [show kO + (i + 1) * 4 = kO + 4 + i * 4 by omega] at hin
      obtain ⟨k0, k1, k2, k3⟩ := hin
      have HCT : Hid (costL cs k (c0 :: rest.take (i + 1)) = costL cs k (c0 :: rest.take i) + costF cs k rest[i]) := by show _ = _; rw [HTK.out, ← List.cons_append, costL_snoc]
      have hct2 := costL_take cs k (c0 :: rest) (i + 2)
      rw [List.take_succ_cons] at hct2
      have HJT : Hid (joinL8 cs M k c0 (rest.take (i + 1)) = joinL8 cs M k c0 (rest.take i) ||| daysF cs M k rest[i]) := by show _ = _; rw [HTK.out]; unfold joinL8; rw [List.foldl_append]; rfl
      have hjl := joinL8_lt cs M k c0 (rest.take i)
      have hdl := daysF_lt cs M k rest[i]
      generalize rest[i] = ct at *
      generalize K (i + 1) = kw at *
      obtain ⟨nr, hnr, hmr⟩ := HML.out
      have HMR := hide hmr
      have HNR := hide hnr
      clear hmr hnr
      obtain ⟨wC, hwC⟩ : ∃ wC, wC = wr.alloc (.cells #[.int .i64 kw.op, .slice kw.no kw.nl kw.nc, .slice kw.ko kw.kl kw.kc, .string kw.nm] 49) := ⟨_, rfl⟩
      have HBC : Hid (Below wr.heap.size wr wC) := by rw [hwC]; exact (Below.refl _ _).alloc (Nat.le_refl _) _
      have HCALL2 := hide (HIH.out ct kw M nr W wC B co cc cs g o V (HGr.out.more HBC.out) hp HNDi.out HC.out h24 (HMR.out.below HBC.out) HMO.out HKI.out (by have := HCT.out; have := HNR.out; omega))
      unfold askrV NVal.val ndV Mo.val moV at HCALL2
      have ebit := or32 (joinL8 cs M k c0 (rest.take i)) (daysF cs M k ct) (by omega) (by omega)
      have hpr : p + 2 < wr.heap.size := World.block_lt_of_cell? wr _ m0
      have hpr0 : p < wr.heap.size := by omega
      have hpr1 : p + 1 < wr.heap.size := by omega
      have hpr2 : p + 1 + 1 < wr.heap.size := by omega
      have ne0 : ¬ p = wr.heap.size := by omega
      have ne3 : ¬ p + 1 + 1 = wr.heap.size := by omega
      have m0' : wr.cell? ⟨p + 1 + 1, 0, none⟩ = some (.int .i64 M.y) := m0
      have m1' : wr.cell? ⟨p + 1 + 1, 1, none⟩ = some (.int .i64 M.m) := m1
      have m2' : wr.cell? ⟨p + 1 + 1, 2, none⟩ = some (.int .i64 M.f) := m2
      have m3' : wr.cell? ⟨p + 1 + 1, 3, none⟩ = some (.int .i64 M.s) := m3
      have ne1 : ¬ p + 1 = wr.heap.size := by omega
      have ne2 : ¬ p + 2 = wr.heap.size := by omega
      generalize hJe : joinL8 cs M k c0 (rest.take i) = J at *
      generalize hDe : daysF cs M k ct = Dd at *
      clear hJe hDe
      go_wp2_with fail
      rw [← hwC]
      refine HCALL2.out.mono ?_
      rintro e w3 ⟨rfl, hmem3, hon3⟩
      have HM3 : Hid (MemoLe cs w3 B (n + costL cs k (c0 :: rest.take (i + 1)))) := by
        obtain ⟨n3', h1, h2⟩ := hmem3
        exact ⟨n3', by have := HCT.out; have := HNR.out; omega, h2⟩
      have HON3 : Hid (Only (· = B) w2 w3) := HONr.out.trans ((Only.below HBC.out).trans hon3 (fun _ _ h => h)) (fun _ _ h => h)
      clear hmem3 hon3 hwC m0' m1' m2' m3' a0 a1 n0 n1 n2 n3 m0 m1 m2 m3 k0 k1 k2 k3
      go_wp2
      go_roundw
      case rel => exact ⟨i + 1, by omega, by go_num, by rw [HJT.out], HM3.out, HON3.out⟩
      case measure => simp [intOf]; omega
    · have HE : Hid (rest.take i = rest) := List.take_of_length_le (by omega)
      go_wp2
      go_ret
      obtain ⟨nr, hnr, hmr⟩ := HML.out
      rw [HE.out] at hnr
      exact Dayd.of ⟨ret_int (by rw [HE.out]), ⟨nr, hnr, hmr⟩, HOW.out.trans HONr.out (fun _ _ h => h)⟩
end Go.Proofs.YtkpgfhapffijkaaGreatDoor

/- Package cal: days, of And and Or, and of every node. -/
namespace Go.Proofs.YtkpgfhapffijkaaGreatDoor
open Go.ChangeShapes Go.WideShapes Go.ChangeAt Go.RowKit Go.DsMem Go.DsMk
set_option linter.unusedVariables false
set_option maxHeartbeats 4000000 in
set_option maxRecDepth 20000 in
/-- of And and Or: as joined -/
theorem days78 (op : Int) (hop : op = 7 ∨ op = 8) (R N : Nat) (n : Nat) (W w : World) (B : Nat) (co : Option Addr) (cc : Nat) (cs : List (ByteArray × Nd)) (no : Option Addr) (nl nc : Nat) (ko : Option Addr) (kl kc : Nat) (nm : ByteArray) (M : Mo)
    (hj : ∀ w1, Below w.heap.size w w1 → Calls Tryz.prog 157 #[askrV co cs.length cc B, ndV op no nl nc ko kl kc nm, M.val] w1 (Dayd cs w1 B N R)) :
    Calls Tryz.prog 127 #[askrV co cs.length cc B, ndV op no nl nc ko kl kc nm, M.val] w (Dayd cs w B N R) := by
  have HJ := hide hj
  clear hj
  obtain ⟨wA, hwA⟩ : ∃ wA, wA = ((w.alloc (.cells #[.slice co cs.length cc, .map (some B)] 181)).alloc (.cells #[.int .i64 op, .slice no nl nc, .slice ko kl kc, .string nm] 49)).alloc (.cells #[.int .i64 M.y, .int .i64 M.m, .int .i64 M.f, .int .i64 M.s] 222) := ⟨_, rfl⟩
  have HBL : Hid (Below w.heap.size w wA) := by rw [hwA]; exact below3 w _ _ _
  have HCALL := hide (HJ.out wA HBL.out)
  unfold askrV ndV Mo.val moV at *
  rcases hop with rfl | rfl
  all_goals
    go_enter Tryz.func127, Tryz.ntmps127
    go_wp2_with fail
    rw [← hwA]
    refine HCALL.out.mono ?_
    rintro e w2 ⟨rfl, hmem, hon⟩
    have HM2 := hide hmem
    have HON := hide hon
    clear hmem hon
    go_wp2
    go_ret
    exact Dayd.of ⟨rfl, HM2.out, (Only.below HBL.out).trans HON.out (fun _ _ h => h)⟩
theorem dayd_of_gc {cs : List (ByteArray × Nd)} {w : World} {B n m : Nat} {R : Nat} (hm : Memo cs w B n) (hn : n ≤ m) {P : Program} {f : FuncId} {args : Array Value} (h : Calls P f args w fun e w' => e = .returned (.int .u32 R) ∧ Gc w w') : Calls P f args w (Dayd cs w B m R) :=
  h.mono fun e w' ⟨he, hg⟩ => Dayd.of ⟨he, ⟨n, hn, hm.below hg.below⟩, Only.below hg.below⟩
theorem one_num {l : List Int} (h : l.length = 1) : l = [l.getD 0 0] := by match l, h with | [x], _ => rfl
theorem two_num {l : List Int} (h : l.length = 2) : l = [l.getD 0 0, l.getD 1 0] := by match l, h with | [x, y], _ => rfl
end Go.Proofs.YtkpgfhapffijkaaGreatDoor

/- Package cal: days of every node that can be asked. -/
namespace Go.Proofs.YtkpgfhapffijkaaGreatDoor
open Go.ChangeShapes Go.WideShapes Go.ChangeAt Go.RowKit Go.DsMem Go.DsMk
set_option linter.unusedVariables false
theorem shape_at {op : Int} {nl kl : Nat} {nm : ByteArray} (h : shapeB op nl kl nm = true) : (1 ≤ op ∧ op ≤ 10) ∧ (shpN op).1 ≤ (nl : Int) ∧ (nl : Int) ≤ (shpN op).2.1 ∧ (shpN op).2.2.1 ≤ (kl : Int) ∧ (kl : Int) ≤ (shpN op).2.2.2.1 := by
  unfold shapeB at h
  simp only [Bool.and_eq_true, decide_eq_true_eq] at h
  obtain ⟨h1, ⟨⟨⟨h3, h4⟩, h5⟩, h6⟩, _⟩ := h
  exact ⟨h1, h3, h4, h5, h6⟩
theorem rightB_bd {k : Int} (h : DsCal.rightB k = true) : 1 ≤ k ∧ k ≤ 3652059 := by
  unfold DsCal.rightB at h; simpa using h
set_option maxHeartbeats 4000000 in
theorem days_step (k : Nat) (ih : DaysOk k) : DaysOk (k + 1) := by
  intro t v M n W w B co cc cs g o V h hp hv hc h24 hm hM hok hn
  obtain ⟨op, ns, kids, nm, no, nc, ko, kc, kg, kO, K, hnn, hnl, hkl, hkc, hko, hcs, hks⟩ := hv
  obtain ⟨⟨hs, hnu⟩, h5, hne⟩ := hok
  obtain ⟨⟨o1, o10⟩, s1, s2, s3, s4⟩ := shape_at hs
  have hrw : RdI w (.slice no ns.length nc) ns := hnn.below h.below
  have hcase : op = 1 ∨ op = 2 ∨ op = 3 ∨ op = 4 ∨ op = 5 ∨ op = 6 ∨ op = 7 ∨ op = 8 ∨ op = 9 ∨ op = 10 := by omega
  show Calls _ _ #[_, ndV op no ns.length nc ko kids.length kc nm, _] _ _
  rcases hcase with rfl | rfl | rfl | rfl | rfl | rfl | rfl | rfl | rfl | rfl
  · simp [shpN] at s1 s2 s3 s4
    have hl : ns.length = 1 := by omega
    have e1 := one_num hl
    have hb : 0 ≤ ns.getD 0 0 ∧ ns.getD 0 0 ≤ 127 := by
      rw [e1] at hnu; simpa [numsB, betB] using hnu
    obtain ⟨x, hx⟩ := Int.eq_ofNat_of_zero_le hb.1
    rw [hx] at e1
    rw [hl]
    rw [e1] at hrw
    have := h.here.days1 co cs.length cc B x no nc ko kids.length kc nm M hM (by simpa using hrw) (by omega)
    refine dayd_of_gc hm (by omega) ?_
    have er : daysF cs M (k + 1) (.mk 1 ns kids nm) = weekN x ((M.f - 1) % 7) M.s := by simp only [daysF, if_true]; rw [hx]; rfl
    rw [er]; exact this
  · simp [shpN] at s1 s2 s3 s4
    have hb : ∀ q ∈ ns, 1 ≤ q ∧ q ≤ 3652059 := fun q hq => by
      simp [numsB] at hnu; exact rightB_bd (hnu q hq)
    refine dayd_of_gc hm (by omega) ?_
    have er : daysF cs M (k + 1) (.mk 2 ns kids nm) = theseN M.f M.s ns := by simp [daysF]
    rw [er]; exact h.here.days2 co cs.length cc B ns no nc ko kids.length kc nm M hM hrw (by omega) hb
  · simp [shpN] at s1 s2 s3 s4
    have hb : ∀ q ∈ ns, -31 ≤ q ∧ q ≤ 31 := fun q hq => by
      simp [numsB, endB] at hnu; have := hnu q hq; omega
    refine dayd_of_gc hm (by omega) ?_
    have er : daysF cs M (k + 1) (.mk 3 ns kids nm) = daysN M.s ns := by simp [daysF]
    rw [er]; exact h.here.days3 co cs.length cc B ns no nc ko kids.length kc nm M hM hrw (by omega) hb
  · simp [shpN] at s1 s2 s3 s4
    have hl : ns.length = 2 := by omega
    have e1 := two_num hl
    have hb : DsCal.okA (ns.getD 0 0) (ns.getD 1 0) := by
      simp [numsB, betB, endB] at hnu
      simp only [List.getD_eq_getElem?_getD]
      unfold DsCal.okA; omega
    rw [hl]
    rw [e1] at hrw
    refine dayd_of_gc hm (by omega) ?_
    have er : daysF cs M (k + 1) (.mk 4 ns kids nm) = theseN M.f M.s [(DsCal.nres M.f M.s (ns.getD 0 0) (ns.getD 1 0)).1] := by simp [daysF]
    rw [er]; exact h.here.days4 co cs.length cc B _ _ no nc ko kids.length kc nm M hM (by simpa using hrw) hb
  · simp [shpN] at s1 s2 s3 s4
    have hl : ns.length = 1 := by omega
    have e1 := one_num hl
    obtain ⟨t', ht', hk'⟩ := h5 (.inl rfl)
    have hb : -31 ≤ ns.getD 0 0 ∧ ns.getD 0 0 ≤ 31 := by
      rw [e1] at hnu; simp [numsB, endB] at hnu
      simp only [List.getD_eq_getElem?_getD]; omega
    have er : daysF cs M (k + 1) (.mk 5 ns kids nm) = daysN M.s [(nthL (dl (daysF cs M k t')) (ns.getD 0 0) : Int)] := by simp [daysF, ht']
    have ec : costF cs (k + 1) (.mk 5 ns kids nm) = 1 + costF cs k t' := by simp [costF, ht']
    rw [er, ec]
    rw [ec] at hn
    exact days5 k ih (ns.getD 0 0) no ns.length nc ko kids.length kc nm t' M n W w B co cc cs g o V h hp hc h24 hm hM ht' (by rw [← e1]; exact hnn) hb.1 hb.2 hk' hn
  · simp [shpN] at s1 s2 s3 s4
    have hl : ns.length = 2 := by omega
    have e1 := two_num hl
    have hb : okP (ns.getD 0 0) ∧ 1 ≤ ns.getD 1 0 ∧ ns.getD 1 0 ≤ 12 := by
      simp [numsB, betB, oneB] at hnu
      simp only [List.getD_eq_getElem?_getD]
      exact ⟨hnu.1, hnu.2⟩
    rw [hl]
    rw [e1] at hrw
    refine dayd_of_gc hm (by omega) ?_
    have er : daysF cs M (k + 1) (.mk 6 ns kids nm) = fisN M.y M.f M.s (ns.getD 0 0) (ns.getD 1 0) := by simp [daysF]
    rw [er]; exact h.here.days6 co cs.length cc B _ _ no nc ko kids.length kc nm M hM (by simpa using hrw) hb.1 hb.2.1 hb.2.2
  · simp [shpN] at s1 s2 s3 s4
    match kids, hkl, hkc, hko, hcs, hks, hne, s3, s4, hs, hn with
    | c0 :: rest, hkl, hkc, hko, hcs, hks, hne, _, s4, hs, hn =>
      have er : daysF cs M (k + 1) (.mk 7 ns (c0 :: rest) nm) = joinL7 cs M k c0 rest := by simp [daysF, joinL7]
      have ec : costF cs (k + 1) (.mk 7 ns (c0 :: rest) nm) = costL cs k (c0 :: rest) := by simp [costF, costL]
      rw [er, ec]
      rw [ec] at hn
      simp only [List.length_cons] at s4 hkc hcs hks
      have hko' := hko (by simp)
      subst hko'
      refine days78 7 (by omega) _ _ n W w B co cc cs no ns.length nc _ (c0 :: rest).length kc nm M (fun w1 hb => ?_)
      exact joined7 k ih c0 rest K kg kO no ns.length nc kc nm M n W w1 B co cc cs g o V (h.more hb) hp hc h24 (hm.below hb) hM (by omega) hkc hcs (hks 0 (by omega)) (fun j hj => hks (j + 1) (by omega)) (hne (by omega) c0 (by simp)) (fun c hc => hne (by omega) c (by simp [hc])) hn
  · simp [shpN] at s1 s2 s3 s4
    match kids, hkl, hkc, hko, hcs, hks, hne, s3, s4, hs, hn with
    | c0 :: rest, hkl, hkc, hko, hcs, hks, hne, _, s4, hs, hn =>
      have er : daysF cs M (k + 1) (.mk 8 ns (c0 :: rest) nm) = joinL8 cs M k c0 rest := by simp [daysF, joinL8]
      have ec : costF cs (k + 1) (.mk 8 ns (c0 :: rest) nm) = costL cs k (c0 :: rest) := by simp [costF, costL]
      rw [er, ec]
      rw [ec] at hn
      simp only [List.length_cons] at s4 hkc hcs hks
      have hko' := hko (by simp)
      subst hko'
      refine days78 8 (by omega) _ _ n W w B co cc cs no ns.length nc _ (c0 :: rest).length kc nm M (fun w1 hb => ?_)
      exact joined8 k ih c0 rest K kg kO no ns.length nc kc nm M n W w1 B co cc cs g o V (h.more hb) hp hc h24 (hm.below hb) hM (by omega) hkc hcs (hks 0 (by omega)) (fun j hj => hks (j + 1) (by omega)) (hne (by omega) c0 (by simp)) (fun c hc => hne (by omega) c (by simp [hc])) hn
  · simp [shpN] at s1 s2 s3 s4
    match kids, hkl, hkc, hko, hcs, hks, hne, s3, s4, hs, hn with
    | [c], hkl, hkc, hko, hcs, hks, hne, _, _, hs, hn =>
      have er : daysF cs M (k + 1) (.mk 9 ns [c] nm) = difN (allN M.s) (daysF cs M k c) := by simp [daysF]
      have ec : costF cs (k + 1) (.mk 9 ns [c] nm) = 1 + costF cs k c := by simp [costF]
      rw [er, ec]
      rw [ec] at hn
      exact days9 k ih (K 0) kg kO no ns.length nc ko 1 kc nm c M n W w B co cc cs g o V h hp hc h24 hm hM (hko (by simp)) rfl hkc (by simpa using hcs 0 (by simp)) (hks 0 (by simp)) (hne (by omega) c (by simp)) hn
  · obtain ⟨t', ht', hk'⟩ := h5 (.inr rfl)
    have er : daysF cs M (k + 1) (.mk 10 ns kids nm) = daysF cs M k t' := by simp [daysF, ht']
    have ec : costF cs (k + 1) (.mk 10 ns kids nm) = 1 + costF cs k t' := by simp [costF, ht']
    rw [er, ec]
    rw [ec] at hn
    exact days10 k ih no ns.length nc ko kids.length kc nm t' M n W w B co cc cs g o V h hp hc h24 hm hM ht' hk' hn
/-- cal.asker.days -/
theorem days_any2 : ∀ k, DaysOk k
  | 0 => fun t v M n W w B co cc cs g o V _ _ _ _ _ _ _ hok _ => hok.elim
  | k + 1 => days_step k (days_any2 k)
end Go.Proofs.YtkpgfhapffijkaaGreatDoor

/- Package cal: newAsker, asking. -/
namespace Go.Proofs.YtkpgfhapffijkaaGreatDoor
open Go.ChangeShapes Go.WideShapes Go.ChangeAt Go.RowKit Go.DsMem Go.DsMk
set_option linter.unusedVariables false
set_option maxHeartbeats 1000000 in
/-- cal.newAsker -/
theorem Gc.newAsker {W w : World} (h : Gc W w) (co : Option Addr) (cc : Nat) (cs : List (ByteArray × Nd)) :
    Calls Tryz.prog 84 #[.slice co cs.length cc] w fun e w' => ∃ B, e = .returned (askrV co cs.length cc B) ∧ (w.heap.size ≤ B ∧ Memo cs w' B 0) ∧ Gc w w' := by
  have HG := hide h
  clear h
  have hmm := @run_makeMap Tryz.prog
  go_enter Tryz.func84, Tryz.ntmps84
  go_wp2
  refine bodyPost_ret (v := askrV co cs.length cc (w.heap.size + 1)) (by simp [results, Tryz.results84, go_sem, askrV]) rfl ⟨w.heap.size + 1, rfl, ⟨by omega, ?_⟩, (HG.out.here.alloc _).alloc _⟩
  refine ⟨.map [], ?_, ⟨_, rfl⟩, fun c hc M kl _ _ hh => by simp [Maps.has] at hh⟩
  have := World.ownsMap_made (H := Unit) (w.alloc (.cells #[.slice co cs.length cc, .map (some (w.heap.size + 1))] 181)) Tryz.prog 280 (plainElem Tryz.prog 224)
  simpa using this
/-- what asking's function holds: the month asked last in pa, its days in pd, the asker's box in pk, the node's in pn -/
structure AskSt (cs : List (ByteArray × Nd)) (k : Nat) (t : Nd) (v : NVal) (co : Option Addr) (cc B : Nat) (pa pk pn pd : Nat) (w : World) (n : Nat) : Prop where
  at_ : ∃ y m f s : Int, ∃ d : Nat, w.heap[pa]? = some (.cells #[.int .i64 y, .int .i64 m, .int .i64 f, .int .i64 s] 222 (0, 0)) ∧ w.heap[pd]? = some (.cells #[.int .u32 d] 224 (0, 0)) ∧
    ((f = 0 ∧ s = 0) ∨ (IsMo y m f s ∧ d = daysF cs ⟨y, m, f, s⟩ k t))
  ask : w.heap[pk]? = some (.cells #[.slice co cs.length cc, .map (some B)] 181 (0, 0))
  node : w.heap[pn]? = some (.cells #[.int .i64 v.op, .slice v.no v.nl v.nc, .slice v.ko v.kl v.kc, .string v.nm] 49 (0, 0))
  memo : Memo cs w B n
set_option maxHeartbeats 1000000 in
/-- cal.asker.asking -/
theorem Gc.asking {W w : World} (h : Gc W w) (co : Option Addr) (cc : Nat) (cs : List (ByteArray × Nd)) (B n : Nat) (hm : Memo cs w B n) (k : Nat) (t : Nd) (v : NVal) :
    Calls Tryz.prog 85 #[askrV co cs.length cc B, v.val] w fun e w' => e = .returned (.func (.func 125) #[] #[.pointer (some ⟨w.heap.size + 2, 0, none⟩), .pointer (some ⟨w.heap.size, 0, none⟩), .pointer (some ⟨w.heap.size + 1, 0, none⟩), .pointer (some ⟨w.heap.size + 3, 0, none⟩)]) ∧
      AskSt cs k t v co cc B (w.heap.size + 2) w.heap.size (w.heap.size + 1) (w.heap.size + 3) w' n ∧ Gc w w' := by
  have HG := hide h
  have HM := hide hm
  clear h hm
  unfold askrV NVal.val ndV
  go_enter Tryz.func85, Tryz.ntmps85
  go_wp2
  go_ret
  refine ⟨rfl, ?_, (((HG.out.here.alloc _).alloc _).alloc _).alloc _⟩
  obtain ⟨w1, h1⟩ : ∃ w1, w1 = w.alloc (.cells #[.slice co cs.length cc, .map (some B)] 181) := ⟨_, rfl⟩
  have z1 : w1.heap.size = w.heap.size + 1 := by rw [h1]; simp
  have e1 : w1.heap[w.heap.size]? = some (.cells #[.slice co cs.length cc, .map (some B)] 181 (0, 0)) := by rw [h1]; exact heap_alloc_new w _
  have m1 : Memo cs w1 B n := by rw [h1]; exact HM.out.below ((Below.refl _ _).alloc (Nat.le_refl _) _)
  rw [← h1]
  clear h1
  obtain ⟨w2, h2⟩ : ∃ w2, w2 = w1.alloc (.cells #[.int .i64 v.op, .slice v.no v.nl v.nc, .slice v.ko v.kl v.kc, .string v.nm] 49) := ⟨_, rfl⟩
  have z2 : w2.heap.size = w.heap.size + 2 := by rw [h2]; simp [z1]
  have f1 : w2.heap[w.heap.size]? = some (.cells #[.slice co cs.length cc, .map (some B)] 181 (0, 0)) := by rw [h2]; exact heap_keep e1
  have e2 : w2.heap[w.heap.size + 1]? = some (.cells #[.int .i64 v.op, .slice v.no v.nl v.nc, .slice v.ko v.kl v.kc, .string v.nm] 49 (0, 0)) := by rw [← z1, h2]; exact heap_alloc_new w1 _
  have m2 : Memo cs w2 B n := by rw [h2]; exact m1.below ((Below.refl _ _).alloc (Nat.le_refl _) _)
  rw [← h2]
  clear h2
  obtain ⟨w3, h3⟩ : ∃ w3, w3 = w2.alloc (.cells #[.int .i64 0, .int .i64 0, .int .i64 0, .int .i64 0] 222) := ⟨_, rfl⟩
  have z3 : w3.heap.size = w.heap.size + 3 := by rw [h3]; simp [z2]
  have g1 : w3.heap[w.heap.size]? = some (.cells #[.slice co cs.length cc, .map (some B)] 181 (0, 0)) := by rw [h3]; exact heap_keep f1
  have g2 : w3.heap[w.heap.size + 1]? = some (.cells #[.int .i64 v.op, .slice v.no v.nl v.nc, .slice v.ko v.kl v.kc, .string v.nm] 49 (0, 0)) := by rw [h3]; exact heap_keep e2
  have e3 : w3.heap[w.heap.size + 2]? = some (.cells #[.int .i64 0, .int .i64 0, .int .i64 0, .int .i64 0] 222 (0, 0)) := by rw [← z2, h3]; exact heap_alloc_new w2 _
  have m3 : Memo cs w3 B n := by rw [h3]; exact m2.below ((Below.refl _ _).alloc (Nat.le_refl _) _)
  rw [← h3]
  clear h3
  have e4 := heap_alloc_new w3 (.cells #[.int .u32 0] 224)
  rw [z3] at e4
  exact ⟨⟨0, 0, 0, 0, 0, heap_keep e3, e4, .inl ⟨rfl, rfl⟩⟩, heap_keep g1, heap_keep g2, m3.below ((Below.refl _ _).alloc (Nat.le_refl _) _)⟩
end Go.Proofs.YtkpgfhapffijkaaGreatDoor

/- Package cal: the function that asking makes. -/
namespace Go.Proofs.YtkpgfhapffijkaaGreatDoor
open Go.ChangeShapes Go.WideShapes Go.ChangeAt Go.RowKit Go.DsMem Go.DsMk
set_option linter.unusedVariables false
theorem AskSt.below {cs : List (ByteArray × Nd)} {k : Nat} {t : Nd} {v : NVal} {co : Option Addr} {cc B pa pk pn pd : Nat} {w w' : World} {n : Nat} (h : AskSt cs k t v co cc B pa pk pn pd w n) (hb : Below w.heap.size w w') : AskSt cs k t v co cc B pa pk pn pd w' n := by
  obtain ⟨⟨y, m, f, s, d, ha, hdd, hwas⟩, hk, hnd, hm⟩ := h
  exact ⟨⟨y, m, f, s, d, by rw [hb.block pa (block_lt ha)]; exact ha, by rw [hb.block pd (block_lt hdd)]; exact hdd, hwas⟩, by rw [hb.block pk (block_lt hk)]; exact hk, by rw [hb.block pn (block_lt hnd)]; exact hnd, hm.below hb⟩
/-- what the function answers: whether the day is one of the node's -/
def Asked (cs : List (ByteArray × Nd)) (k : Nat) (t : Nd) (day : Int) (e : Ending) : Prop := ∃ M : Mo, M.ok ∧ M.f ≤ day ∧ day < M.f + M.s ∧ e = .returned (.bool (hasB (daysF cs M k t) (day - M.f + 1)))
/-- the function's end: the days of the month that it holds -/
def AskD (cs : List (ByteArray × Nd)) (k : Nat) (t : Nd) (v : NVal) (co : Option Addr) (cc B pa pk pn pd n : Nat) (day : Int) (w : World) (e : Ending) (w' : World) : Prop :=
  Asked cs k t day e ∧ (∃ n', n' ≤ n ∧ AskSt cs k t v co cc B pa pk pn pd w' n') ∧ Only (fun i => i = B ∨ i = pa ∨ i = pd) w w'
def AskFn : Prop := ∀ (cs : List (ByteArray × Nd)) (k : Nat) (t : Nd) (v : NVal) (co : Option Addr) (cc B pa pk pn pd n : Nat) (day : Int) (W w : World) (g o : Nat) (V : Nat → NVal),
  Gc W w → (W.heap.size ≤ B ∧ W.heap.size ≤ pa ∧ W.heap.size ≤ pd ∧ ¬ pa = B ∧ ¬ pd = B ∧ ¬ pa = pd ∧ ¬ pk = pa ∧ ¬ pk = pd ∧ ¬ pk = B ∧ ¬ pn = pa ∧ ¬ pn = pd ∧ ¬ pn = B) → NdAt W v t → CalsAt W co cc cs g o V → cs.length ≤ 24 → okD cs k t → n + costF cs k t ≤ 100000 → 1 ≤ day → day ≤ 3652059 → AskSt cs k t v co cc B pa pk pn pd w n →
  Calls Tryz.prog 125 #[.int .i64 day, .pointer (some ⟨pa, 0, none⟩), .pointer (some ⟨pk, 0, none⟩), .pointer (some ⟨pn, 0, none⟩), .pointer (some ⟨pd, 0, none⟩)] w (AskD cs k t v co cc B pa pk pn pd (n + costF cs k t) day w)
set_option maxHeartbeats 4000000 in
theorem askFn : AskFn := by
  intro cs k t v co cc B pa pk pn pd n day W w g o V h hd hv hc h24 hok hn hd1 hd2 hs
  obtain ⟨⟨y, m, f, s, d, ha, hdd, hwas⟩, hk, hnd, hm⟩ := hs
  have HG := hide h
  have HD := hide hd
  have HV := hide hv
  have HC := hide hc
  have HOK := hide hok
  have HM := hide hm
  have HK := hide hk
  have HN := hide hnd
  have HA := hide ha
  have HDD := hide hdd
  have HW := hide hwas
  have c2 : w.cell? ⟨pa, 2, none⟩ = some (.int .i64 f) := by rw [cell_of ha]; rfl
  have c3 : w.cell? ⟨pa, 3, none⟩ = some (.int .i64 s) := by rw [cell_of ha]; rfl
  have hfs : 0 ≤ f ∧ f ≤ 3652059 ∧ 0 ≤ s ∧ s ≤ 31 := by
    rcases hwas with ⟨rfl, rfl⟩ | ⟨h, _⟩
    · omega
    · have := isMo_bd h; omega
  obtain ⟨f1, f2, s1, s2⟩ := hfs
  clear h hd hv hc hok hm hk hnd ha hdd hwas
  --BRANCHES
  rcases Int.lt_or_le day f with hlt0 | hle0
  · go_enter Tryz.func125, Tryz.ntmps125
    go_wp2_with fail
    have HG1 := hide (HG.out.here.monthOf day hd1 hd2)
    refine HG1.out.mono ?_
    rintro e w1 ⟨⟨y1, m1, f1, s1, rfl, hmo, hle, hlt⟩, hg1⟩
    have HMO := hide hmo
    have HG2 := hide hg1
    have hb1 := hg1.below
    have ha1 : w1.heap[pa]? = some (.cells #[.int .i64 y, .int .i64 m, .int .i64 f, .int .i64 s] 222 (0, 0)) := by rw [hb1.block pa (block_lt HA.out)]; exact HA.out
    have HA1 := hide ha1
    have q0 : w1.cell? ⟨pa, 0, none⟩ = some (.int .i64 y) ∧ w1.frozen? ⟨pa, 0, none⟩ = false := ⟨by rw [cell_of ha1]; rfl, frozen_of ha1⟩
    obtain ⟨q0, z0⟩ := q0
    have z1 : w1.frozen? ⟨pa, 1, none⟩ = false := frozen_of ha1
    have z2 : w1.frozen? ⟨pa, 2, none⟩ = false := frozen_of ha1
    have z3 : w1.frozen? ⟨pa, 3, none⟩ = false := frozen_of ha1
    have q1 : w1.cell? ⟨pa, 1, none⟩ = some (.int .i64 m) := by rw [cell_of ha1]; rfl
    have q2 : w1.cell? ⟨pa, 2, none⟩ = some (.int .i64 f) := by rw [cell_of ha1]; rfl
    have q3 : w1.cell? ⟨pa, 3, none⟩ = some (.int .i64 s) := by rw [cell_of ha1]; rfl
    have hk1 : w1.heap[pk]? = some (.cells #[.slice co cs.length cc, .map (some B)] 181 (0, 0)) := by rw [hb1.block pk (block_lt HK.out)]; exact HK.out
    have hn1 : w1.heap[pn]? = some (.cells #[.int .i64 v.op, .slice v.no v.nl v.nc, .slice v.ko v.kl v.kc, .string v.nm] 49 (0, 0)) := by rw [hb1.block pn (block_lt HN.out)]; exact HN.out
    have hdd1 : w1.heap[pd]? = some (.cells #[.int .u32 d] 224 (0, 0)) := by rw [hb1.block pd (block_lt HDD.out)]; exact HDD.out
    have HK1 := hide hk1
    have HN1 := hide hn1
    have HDD1 := hide hdd1
    have HM1 := hide (HM.out.below hb1)
    obtain ⟨wB, wpa, wpd, npaB, npdB, npad, nkpa, nkpd, nkB, nnpa, nnpd, nnB⟩ := HD.out
    have nkpa' : ¬ pa = pk := fun e => nkpa e.symm
    have nnpa' : ¬ pa = pn := fun e => nnpa e.symm
    have npad' : ¬ pd = pa := fun e => npad e.symm
    have kk0 : w1.cell? ⟨pk, 0, none⟩ = some (.slice co cs.length cc) := by rw [cell_of hk1]; rfl
    have kk1 : w1.cell? ⟨pk, 1, none⟩ = some (.map (some B)) := by rw [cell_of hk1]; rfl
    have nn0 : w1.cell? ⟨pn, 0, none⟩ = some (.int .i64 v.op) := by rw [cell_of hn1]; rfl
    have nn1 : w1.cell? ⟨pn, 1, none⟩ = some (.slice v.no v.nl v.nc) := by rw [cell_of hn1]; rfl
    have nn2 : w1.cell? ⟨pn, 2, none⟩ = some (.slice v.ko v.kl v.kc) := by rw [cell_of hn1]; rfl
    have nn3 : w1.cell? ⟨pn, 3, none⟩ = some (.string v.nm) := by rw [cell_of hn1]; rfl
    clear ha1 hmo hg1 hb1 hk1 hn1 hdd1
    unfold moV
    go_wp2_with fail
    obtain ⟨wS, hwS⟩ : ∃ wS, wS = (((w1.setCell ⟨pa, 0, none⟩ (.int .i64 y1)).setCell ⟨pa, 1, none⟩ (.int .i64 m1)).setCell ⟨pa, 2, none⟩ (.int .i64 f1)).setCell ⟨pa, 3, none⟩ (.int .i64 s1) := ⟨_, rfl⟩
    rw [← hwS]
    have haS : wS.heap[pa]? = some (.cells #[.int .i64 y1, .int .i64 m1, .int .i64 f1, .int .i64 s1] 222 (0, 0)) := by
      rw [hwS, hset_same (hset_same (hset_same (hset_same HA1.out _) _) _) _]; rfl
    have hoS : Only (· = pa) w1 wS := by rw [hwS]; exact (((Only.set _ _ _ _).trans (Only.set _ _ _ _) (fun _ _ h => h)).trans (Only.set _ _ _ _) (fun _ _ h => h)).trans (Only.set _ _ _ _) (fun _ _ h => h)
    have hkS := hoS.block pk (block_lt HK1.out) nkpa
    have hnS := hoS.block pn (block_lt HN1.out) nnpa
    have hdS := hoS.block pd (block_lt HDD1.out) npad'
    rw [HK1.out] at hkS
    rw [HN1.out] at hnS
    rw [HDD1.out] at hdS
    have hmS : Memo cs wS B n := HM1.out.same (hoS.block B HM1.out.lt (fun e => npaB e.symm))
    have HGS : Hid (Gc W wS) := Only.gc (HG.out.more HG2.out.below) hoS wpa
    have hf1 := isMo_bd HMO.out
    obtain ⟨-, -, -, -, hf1, hf2, -, -⟩ := hf1
    have HAS := hide haS
    have HOS := hide hoS
    have HKS := hide hkS
    have HNS := hide hnS
    have HDS := hide hdS
    have HMS := hide hmS
    clear haS hoS hkS hnS hdS hmS hwS q0 q1 q2 q3 z0 z1 z2 z3 kk0 kk1 nn0 nn1 nn2 nn3
    refine (days_any2 k t v ⟨y1, m1, f1, s1⟩ n W wS B co cc cs g o V HGS.out wB HV.out HC.out h24 HMS.out HMO.out HOK.out hn).mono ?_
    obtain ⟨dd, hdv⟩ : ∃ dd, dd = daysF cs ⟨y1, m1, f1, s1⟩ k t := ⟨_, rfl⟩
    have HDV := hide hdv
    have HDL : Hid (dd < 4294967296) := by rw [hdv]; exact Nat.lt_trans (daysF_lt cs ⟨y1, m1, f1, s1⟩ k t) (by decide)
    rw [← hdv]
    rintro e w2 ⟨rfl, ⟨n2, hn2, hm2⟩, ho2⟩
    have ha2 := ho2.block pa (block_lt HAS.out) npaB
    have hd2' := ho2.block pd (block_lt HDS.out) npdB
    have hk2 := ho2.block pk (block_lt HKS.out) nkB
    have hnn2 := ho2.block pn (block_lt HNS.out) nnB
    rw [HAS.out] at ha2
    rw [HDS.out] at hd2'
    rw [HKS.out] at hk2
    rw [HNS.out] at hnn2
    have HA2 := hide ha2
    have HD2 := hide hd2'
    have HK2 := hide hk2
    have HNN2 := hide hnn2
    have HN2 := hide hn2
    have HM2 := hide hm2
    have HO2 := hide ho2
    have r0 : w2.cell? ⟨pd, 0, none⟩ = some (.int .u32 d) := by rw [cell_of hd2']; rfl
    have r1 : w2.frozen? ⟨pd, 0, none⟩ = false := frozen_of hd2'
    clear ha2 hd2' hk2 hnn2 hn2 hm2 ho2 hdv
    go_wp2_with fail
    obtain ⟨wT, hwT⟩ : ∃ wT, wT = w2.setCell ⟨pd, 0, none⟩ (.int .u32 dd) := ⟨_, rfl⟩
    rw [← hwT]
    have hoT : Only (· = pd) w2 wT := by rw [hwT]; exact Only.set _ _ _ _
    have HDT : Hid (wT.heap[pd]? = some (.cells #[.int .u32 dd] 224 (0, 0))) := by refine hide ?_; rw [hwT, hset_same HD2.out _]; rfl
    have HAT : Hid (wT.heap[pa]? = some (.cells #[.int .i64 y1, .int .i64 m1, .int .i64 f1, .int .i64 s1] 222 (0, 0))) := by refine hide ?_; rw [hoT.block pa (block_lt HA2.out) npad]; exact HA2.out
    have HKT : Hid (wT.heap[pk]? = some (.cells #[.slice co cs.length cc, .map (some B)] 181 (0, 0))) := by refine hide ?_; rw [hoT.block pk (block_lt HK2.out) nkpd]; exact HK2.out
    have HNT : Hid (wT.heap[pn]? = some (.cells #[.int .i64 v.op, .slice v.no v.nl v.nc, .slice v.ko v.kl v.kc, .string v.nm] 49 (0, 0))) := by refine hide ?_; rw [hoT.block pn (block_lt HNN2.out) nnpd]; exact HNN2.out
    have HMT : Hid (Memo cs wT B n2) := HM2.out.same (hoT.block B HM2.out.lt (fun e => npdB e.symm))
    have HGT : Hid (Gc W wT) := Only.gc (Only.gc HGS.out HO2.out wB) hoT wpd
    have HOT : Hid (Only (fun i => i = B ∨ i = pa ∨ i = pd) w1 wT) := (HOS.out.mono (T := fun i => i = B ∨ i = pa ∨ i = pd) (fun i _ h => .inr (.inl h))).trans ((HO2.out.mono (T := fun i => i = B ∨ i = pd) (fun i _ h => .inl h)).trans hoT (fun i _ h => .inr h)) (fun i _ h => h.elim .inl (fun h => .inr (.inr h)))
    clear hwT hoT r0 r1
    have KP : Hid (∀ w', Below wT.heap.size wT.drew w' → w'.cell? ⟨pa, 0, none⟩ = some (.int .i64 y1) ∧ w'.cell? ⟨pa, 1, none⟩ = some (.int .i64 m1) ∧ w'.cell? ⟨pa, 2, none⟩ = some (.int .i64 f1) ∧ w'.cell? ⟨pa, 3, none⟩ = some (.int .i64 s1) ∧ w'.cell? ⟨pd, 0, none⟩ = some (.int .u32 dd)) := fun w' hb =>
      ⟨Below.keeps hb (Nat.le_refl _) (a := ⟨pa, 0, none⟩) (by show wT.cell? _ = _; rw [cell_of HAT.out]; rfl), Below.keeps hb (Nat.le_refl _) (a := ⟨pa, 1, none⟩) (by show wT.cell? _ = _; rw [cell_of HAT.out]; rfl), Below.keeps hb (Nat.le_refl _) (a := ⟨pa, 2, none⟩) (by show wT.cell? _ = _; rw [cell_of HAT.out]; rfl), Below.keeps hb (Nat.le_refl _) (a := ⟨pa, 3, none⟩) (by show wT.cell? _ = _; rw [cell_of HAT.out]; rfl), Below.keeps hb (Nat.le_refl _) (a := ⟨pd, 0, none⟩) (by show wT.cell? _ = _; rw [cell_of HDT.out]; rfl)⟩
    obtain ⟨k0, k1, k2, k3, k4⟩ := KP.out wT.drew (Below.refl _ _)
    first
      | (go_region_held3 (fun w' => w'.cell? ⟨pa, 0, none⟩ = some (.int .i64 y1) ∧ w'.cell? ⟨pa, 1, none⟩ = some (.int .i64 m1) ∧ w'.cell? ⟨pa, 2, none⟩ = some (.int .i64 f1) ∧ w'.cell? ⟨pa, 3, none⟩ = some (.int .i64 s1) ∧ w'.cell? ⟨pd, 0, none⟩ = some (.int .u32 dd))
          (first | go_keep | (exact KP.out _ (by assumption)))
          (first
            | (go_at_call 129; refine (HGT.out.drew.here.place y1 m1 f1 s1 day (by omega) (by omega) (by omega) (by omega)).mono ?_; rintro e wq ⟨rfl, hgq⟩; have hbq : Below wT.heap.size wT.drew wq := hgq.below)
            | (go_at_call 128; refine (has_any dd (day - f1 + 1) _ HDL.out).mono ?_; rintro e wr ⟨rfl, rfl⟩)))
      | fail
    have HQ := hide hbq
    clear k0 k1 k2 k3 k4 hgq hbq
    go_wp2
    go_ret
    have hq : Below wT.heap.size wT _ := (Below.refl _ _).drew.trans HQ.out
    refine ⟨⟨⟨y1, m1, f1, s1⟩, HMO.out, hle, hlt, ret_bool (by rw [HDV.out])⟩, ⟨n2, HN2.out, ?_⟩, ?_⟩
    · exact AskSt.below ⟨⟨y1, m1, f1, s1, dd, HAT.out, HDT.out, .inr ⟨HMO.out, HDV.out⟩⟩, HKT.out, HNT.out, HMT.out⟩ hq
    · exact (Only.below (S := fun i => i = B ∨ i = pa ∨ i = pd) HG2.out.below).trans (HOT.out.trans (Only.below hq) (fun _ _ h => h)) (fun _ _ h => h)
  rcases Int.lt_or_le day (f + s) with hlt1 | hle1
  · have hmo : IsMo y m f s ∧ d = daysF cs ⟨y, m, f, s⟩ k t := by
      rcases HW.out with ⟨rfl, rfl⟩ | h
      · omega
      · exact h
    have HMO := hide hmo
    have hf1 := (isMo_bd hmo.1).2.2.2.2.1
    have HDL : Hid (d < 4294967296) := by rw [hmo.2]; exact Nat.lt_trans (daysF_lt cs ⟨y, m, f, s⟩ k t) (by decide)
    clear hmo
    go_enter Tryz.func125, Tryz.ntmps125
    go_wp2_with fail
    have KP : Hid (∀ w', Below w.heap.size w.drew w' → w'.cell? ⟨pa, 0, none⟩ = some (.int .i64 y) ∧ w'.cell? ⟨pa, 1, none⟩ = some (.int .i64 m) ∧ w'.cell? ⟨pa, 2, none⟩ = some (.int .i64 f) ∧ w'.cell? ⟨pa, 3, none⟩ = some (.int .i64 s) ∧ w'.cell? ⟨pd, 0, none⟩ = some (.int .u32 d)) := fun w' hb =>
      ⟨Below.keeps hb (Nat.le_refl _) (a := ⟨pa, 0, none⟩) (by show w.cell? _ = _; rw [cell_of HA.out]; rfl), Below.keeps hb (Nat.le_refl _) (a := ⟨pa, 1, none⟩) (by show w.cell? _ = _; rw [cell_of HA.out]; rfl), Below.keeps hb (Nat.le_refl _) (a := ⟨pa, 2, none⟩) (by show w.cell? _ = _; rw [cell_of HA.out]; rfl), Below.keeps hb (Nat.le_refl _) (a := ⟨pa, 3, none⟩) (by show w.cell? _ = _; rw [cell_of HA.out]; rfl), Below.keeps hb (Nat.le_refl _) (a := ⟨pd, 0, none⟩) (by show w.cell? _ = _; rw [cell_of HDD.out]; rfl)⟩
    obtain ⟨k0, k1, k2, k3, k4⟩ := KP.out w.drew (Below.refl _ _)
    first
      | (go_region_held3 (fun w' => w'.cell? ⟨pa, 0, none⟩ = some (.int .i64 y) ∧ w'.cell? ⟨pa, 1, none⟩ = some (.int .i64 m) ∧ w'.cell? ⟨pa, 2, none⟩ = some (.int .i64 f) ∧ w'.cell? ⟨pa, 3, none⟩ = some (.int .i64 s) ∧ w'.cell? ⟨pd, 0, none⟩ = some (.int .u32 d))
          (first | go_keep | (exact KP.out _ (by assumption)))
          (first
            | (go_at_call 129; refine (HG.out.drew.here.place y m f s day (by omega) (by omega) (by omega) (by omega)).mono ?_; rintro e wq ⟨rfl, hgq⟩; have hbq : Below w.heap.size w.drew wq := hgq.below)
            | (go_at_call 128; refine (has_any d (day - f + 1) _ HDL.out).mono ?_; rintro e wr ⟨rfl, rfl⟩)))
      | fail
    have HQ := hide hbq
    clear k0 k1 k2 k3 k4 hgq hbq
    go_wp2
    go_ret
    have hq : Below w.heap.size w _ := (Below.refl _ _).drew.trans HQ.out
    refine ⟨⟨⟨y, m, f, s⟩, HMO.out.1, hle0, hlt1, ret_bool (by rw [← HMO.out.2])⟩, ⟨n, by omega, ?_⟩, Only.below hq⟩
    exact AskSt.below ⟨⟨y, m, f, s, d, HA.out, HDD.out, HW.out⟩, HK.out, HN.out, HM.out⟩ hq
  · go_enter Tryz.func125, Tryz.ntmps125
    go_wp2_with fail
    have HG1 := hide (HG.out.here.monthOf day hd1 hd2)
    refine HG1.out.mono ?_
    rintro e w1 ⟨⟨y1, m1, f1, s1, rfl, hmo, hle, hlt⟩, hg1⟩
    have HMO := hide hmo
    have HG2 := hide hg1
    have hb1 := hg1.below
    have ha1 : w1.heap[pa]? = some (.cells #[.int .i64 y, .int .i64 m, .int .i64 f, .int .i64 s] 222 (0, 0)) := by rw [hb1.block pa (block_lt HA.out)]; exact HA.out
    have HA1 := hide ha1
    have q0 : w1.cell? ⟨pa, 0, none⟩ = some (.int .i64 y) ∧ w1.frozen? ⟨pa, 0, none⟩ = false := ⟨by rw [cell_of ha1]; rfl, frozen_of ha1⟩
    obtain ⟨q0, z0⟩ := q0
    have z1 : w1.frozen? ⟨pa, 1, none⟩ = false := frozen_of ha1
    have z2 : w1.frozen? ⟨pa, 2, none⟩ = false := frozen_of ha1
    have z3 : w1.frozen? ⟨pa, 3, none⟩ = false := frozen_of ha1
    have q1 : w1.cell? ⟨pa, 1, none⟩ = some (.int .i64 m) := by rw [cell_of ha1]; rfl
    have q2 : w1.cell? ⟨pa, 2, none⟩ = some (.int .i64 f) := by rw [cell_of ha1]; rfl
    have q3 : w1.cell? ⟨pa, 3, none⟩ = some (.int .i64 s) := by rw [cell_of ha1]; rfl
    have hk1 : w1.heap[pk]? = some (.cells #[.slice co cs.length cc, .map (some B)] 181 (0, 0)) := by rw [hb1.block pk (block_lt HK.out)]; exact HK.out
    have hn1 : w1.heap[pn]? = some (.cells #[.int .i64 v.op, .slice v.no v.nl v.nc, .slice v.ko v.kl v.kc, .string v.nm] 49 (0, 0)) := by rw [hb1.block pn (block_lt HN.out)]; exact HN.out
    have hdd1 : w1.heap[pd]? = some (.cells #[.int .u32 d] 224 (0, 0)) := by rw [hb1.block pd (block_lt HDD.out)]; exact HDD.out
    have HK1 := hide hk1
    have HN1 := hide hn1
    have HDD1 := hide hdd1
    have HM1 := hide (HM.out.below hb1)
    obtain ⟨wB, wpa, wpd, npaB, npdB, npad, nkpa, nkpd, nkB, nnpa, nnpd, nnB⟩ := HD.out
    have nkpa' : ¬ pa = pk := fun e => nkpa e.symm
    have nnpa' : ¬ pa = pn := fun e => nnpa e.symm
    have npad' : ¬ pd = pa := fun e => npad e.symm
    have kk0 : w1.cell? ⟨pk, 0, none⟩ = some (.slice co cs.length cc) := by rw [cell_of hk1]; rfl
    have kk1 : w1.cell? ⟨pk, 1, none⟩ = some (.map (some B)) := by rw [cell_of hk1]; rfl
    have nn0 : w1.cell? ⟨pn, 0, none⟩ = some (.int .i64 v.op) := by rw [cell_of hn1]; rfl
    have nn1 : w1.cell? ⟨pn, 1, none⟩ = some (.slice v.no v.nl v.nc) := by rw [cell_of hn1]; rfl
    have nn2 : w1.cell? ⟨pn, 2, none⟩ = some (.slice v.ko v.kl v.kc) := by rw [cell_of hn1]; rfl
    have nn3 : w1.cell? ⟨pn, 3, none⟩ = some (.string v.nm) := by rw [cell_of hn1]; rfl
    clear ha1 hmo hg1 hb1 hk1 hn1 hdd1
    unfold moV
    go_wp2_with fail
    obtain ⟨wS, hwS⟩ : ∃ wS, wS = (((w1.setCell ⟨pa, 0, none⟩ (.int .i64 y1)).setCell ⟨pa, 1, none⟩ (.int .i64 m1)).setCell ⟨pa, 2, none⟩ (.int .i64 f1)).setCell ⟨pa, 3, none⟩ (.int .i64 s1) := ⟨_, rfl⟩
    rw [← hwS]
    have haS : wS.heap[pa]? = some (.cells #[.int .i64 y1, .int .i64 m1, .int .i64 f1, .int .i64 s1] 222 (0, 0)) := by
      rw [hwS, hset_same (hset_same (hset_same (hset_same HA1.out _) _) _) _]; rfl
    have hoS : Only (· = pa) w1 wS := by rw [hwS]; exact (((Only.set _ _ _ _).trans (Only.set _ _ _ _) (fun _ _ h => h)).trans (Only.set _ _ _ _) (fun _ _ h => h)).trans (Only.set _ _ _ _) (fun _ _ h => h)
    have hkS := hoS.block pk (block_lt HK1.out) nkpa
    have hnS := hoS.block pn (block_lt HN1.out) nnpa
    have hdS := hoS.block pd (block_lt HDD1.out) npad'
    rw [HK1.out] at hkS
    rw [HN1.out] at hnS
    rw [HDD1.out] at hdS
    have hmS : Memo cs wS B n := HM1.out.same (hoS.block B HM1.out.lt (fun e => npaB e.symm))
    have HGS : Hid (Gc W wS) := Only.gc (HG.out.more HG2.out.below) hoS wpa
    have hf1 := isMo_bd HMO.out
    obtain ⟨-, -, -, -, hf1, hf2, -, -⟩ := hf1
    have HAS := hide haS
    have HOS := hide hoS
    have HKS := hide hkS
    have HNS := hide hnS
    have HDS := hide hdS
    have HMS := hide hmS
    clear haS hoS hkS hnS hdS hmS hwS q0 q1 q2 q3 z0 z1 z2 z3 kk0 kk1 nn0 nn1 nn2 nn3
    refine (days_any2 k t v ⟨y1, m1, f1, s1⟩ n W wS B co cc cs g o V HGS.out wB HV.out HC.out h24 HMS.out HMO.out HOK.out hn).mono ?_
    obtain ⟨dd, hdv⟩ : ∃ dd, dd = daysF cs ⟨y1, m1, f1, s1⟩ k t := ⟨_, rfl⟩
    have HDV := hide hdv
    have HDL : Hid (dd < 4294967296) := by rw [hdv]; exact Nat.lt_trans (daysF_lt cs ⟨y1, m1, f1, s1⟩ k t) (by decide)
    rw [← hdv]
    rintro e w2 ⟨rfl, ⟨n2, hn2, hm2⟩, ho2⟩
    have ha2 := ho2.block pa (block_lt HAS.out) npaB
    have hd2' := ho2.block pd (block_lt HDS.out) npdB
    have hk2 := ho2.block pk (block_lt HKS.out) nkB
    have hnn2 := ho2.block pn (block_lt HNS.out) nnB
    rw [HAS.out] at ha2
    rw [HDS.out] at hd2'
    rw [HKS.out] at hk2
    rw [HNS.out] at hnn2
    have HA2 := hide ha2
    have HD2 := hide hd2'
    have HK2 := hide hk2
    have HNN2 := hide hnn2
    have HN2 := hide hn2
    have HM2 := hide hm2
    have HO2 := hide ho2
    have r0 : w2.cell? ⟨pd, 0, none⟩ = some (.int .u32 d) := by rw [cell_of hd2']; rfl
    have r1 : w2.frozen? ⟨pd, 0, none⟩ = false := frozen_of hd2'
    clear ha2 hd2' hk2 hnn2 hn2 hm2 ho2 hdv
    go_wp2_with fail
    obtain ⟨wT, hwT⟩ : ∃ wT, wT = w2.setCell ⟨pd, 0, none⟩ (.int .u32 dd) := ⟨_, rfl⟩
    rw [← hwT]
    have hoT : Only (· = pd) w2 wT := by rw [hwT]; exact Only.set _ _ _ _
    have HDT : Hid (wT.heap[pd]? = some (.cells #[.int .u32 dd] 224 (0, 0))) := by refine hide ?_; rw [hwT, hset_same HD2.out _]; rfl
    have HAT : Hid (wT.heap[pa]? = some (.cells #[.int .i64 y1, .int .i64 m1, .int .i64 f1, .int .i64 s1] 222 (0, 0))) := by refine hide ?_; rw [hoT.block pa (block_lt HA2.out) npad]; exact HA2.out
    have HKT : Hid (wT.heap[pk]? = some (.cells #[.slice co cs.length cc, .map (some B)] 181 (0, 0))) := by refine hide ?_; rw [hoT.block pk (block_lt HK2.out) nkpd]; exact HK2.out
    have HNT : Hid (wT.heap[pn]? = some (.cells #[.int .i64 v.op, .slice v.no v.nl v.nc, .slice v.ko v.kl v.kc, .string v.nm] 49 (0, 0))) := by refine hide ?_; rw [hoT.block pn (block_lt HNN2.out) nnpd]; exact HNN2.out
    have HMT : Hid (Memo cs wT B n2) := HM2.out.same (hoT.block B HM2.out.lt (fun e => npdB e.symm))
    have HGT : Hid (Gc W wT) := Only.gc (Only.gc HGS.out HO2.out wB) hoT wpd
    have HOT : Hid (Only (fun i => i = B ∨ i = pa ∨ i = pd) w1 wT) := (HOS.out.mono (T := fun i => i = B ∨ i = pa ∨ i = pd) (fun i _ h => .inr (.inl h))).trans ((HO2.out.mono (T := fun i => i = B ∨ i = pd) (fun i _ h => .inl h)).trans hoT (fun i _ h => .inr h)) (fun i _ h => h.elim .inl (fun h => .inr (.inr h)))
    clear hwT hoT r0 r1
    have KP : Hid (∀ w', Below wT.heap.size wT.drew w' → w'.cell? ⟨pa, 0, none⟩ = some (.int .i64 y1) ∧ w'.cell? ⟨pa, 1, none⟩ = some (.int .i64 m1) ∧ w'.cell? ⟨pa, 2, none⟩ = some (.int .i64 f1) ∧ w'.cell? ⟨pa, 3, none⟩ = some (.int .i64 s1) ∧ w'.cell? ⟨pd, 0, none⟩ = some (.int .u32 dd)) := fun w' hb =>
      ⟨Below.keeps hb (Nat.le_refl _) (a := ⟨pa, 0, none⟩) (by show wT.cell? _ = _; rw [cell_of HAT.out]; rfl), Below.keeps hb (Nat.le_refl _) (a := ⟨pa, 1, none⟩) (by show wT.cell? _ = _; rw [cell_of HAT.out]; rfl), Below.keeps hb (Nat.le_refl _) (a := ⟨pa, 2, none⟩) (by show wT.cell? _ = _; rw [cell_of HAT.out]; rfl), Below.keeps hb (Nat.le_refl _) (a := ⟨pa, 3, none⟩) (by show wT.cell? _ = _; rw [cell_of HAT.out]; rfl), Below.keeps hb (Nat.le_refl _) (a := ⟨pd, 0, none⟩) (by show wT.cell? _ = _; rw [cell_of HDT.out]; rfl)⟩
    obtain ⟨k0, k1, k2, k3, k4⟩ := KP.out wT.drew (Below.refl _ _)
    first
      | (go_region_held3 (fun w' => w'.cell? ⟨pa, 0, none⟩ = some (.int .i64 y1) ∧ w'.cell? ⟨pa, 1, none⟩ = some (.int .i64 m1) ∧ w'.cell? ⟨pa, 2, none⟩ = some (.int .i64 f1) ∧ w'.cell? ⟨pa, 3, none⟩ = some (.int .i64 s1) ∧ w'.cell? ⟨pd, 0, none⟩ = some (.int .u32 dd))
          (first | go_keep | (exact KP.out _ (by assumption)))
          (first
            | (go_at_call 129; refine (HGT.out.drew.here.place y1 m1 f1 s1 day (by omega) (by omega) (by omega) (by omega)).mono ?_; rintro e wq ⟨rfl, hgq⟩; have hbq : Below wT.heap.size wT.drew wq := hgq.below)
            | (go_at_call 128; refine (has_any dd (day - f1 + 1) _ HDL.out).mono ?_; rintro e wr ⟨rfl, rfl⟩)))
      | fail
    have HQ := hide hbq
    clear k0 k1 k2 k3 k4 hgq hbq
    go_wp2
    go_ret
    have hq : Below wT.heap.size wT _ := (Below.refl _ _).drew.trans HQ.out
    refine ⟨⟨⟨y1, m1, f1, s1⟩, HMO.out, hle, hlt, ret_bool (by rw [HDV.out])⟩, ⟨n2, HN2.out, ?_⟩, ?_⟩
    · exact AskSt.below ⟨⟨y1, m1, f1, s1, dd, HAT.out, HDT.out, .inr ⟨HMO.out, HDV.out⟩⟩, HKT.out, HNT.out, HMT.out⟩ hq
    · exact (Only.below (S := fun i => i = B ∨ i = pa ∨ i = pd) HG2.out.below).trans (HOT.out.trans (Only.below hq) (fun _ _ h => h)) (fun _ _ h => h)
end Go.Proofs.YtkpgfhapffijkaaGreatDoor

/- Package cal: isDir, In. -/
namespace Go.Proofs.YtkpgfhapffijkaaGreatDoor
open Go.ChangeShapes Go.WideShapes Go.ChangeAt Go.RowKit Go.DsMem Go.DsMk
set_option linter.unusedVariables false
theorem Only.gcS {W w w' : World} {S : Nat → Prop} (h : Gc W w) (ho : Only S w w') (hS : ∀ i, S i → W.heap.size ≤ i) : Gc W w' :=
  ⟨h.bits, h.len, h.shp, h.below.trans (ho.toBelow h.below.size hS)⟩
/-- what a refusal of nothing says -/
theorem refF_ok {cs : List (ByteArray × Nd)} {t : Nd} {day : Int} (h : refF cs t day = 0) : cs.length ≤ 24 ∧ 1 ≤ day ∧ day ≤ 3652059 ∧ okD cs 257 t ∧ costF cs 257 t ≤ 256 := by
  unfold refF at h
  split at h
  · omega
  split at h
  · omega
  split at h
  · omega
  split at h
  · omega
  rename_i h1 h2 h3 h4
  simp only [Bool.not_eq_false] at h2 h3 h4
  have hd : 1 ≤ day ∧ day ≤ 3652059 := of_decide_eq_true h4
  have := ok_of_meet cs (fun c hc => by simpa using List.all_eq_true.1 h3 c hc) 257 t 16 0 false 0 h2 h
  have h5 := meetF_small cs 257 t 0 false 0 h
  exact ⟨by omega, hd.1, hd.2, this.1, by omega⟩
def InD (cs : List (ByteArray × Nd)) (t : Nd) (day : Int) (e : Ending) : Prop :=
  (¬ refF cs t day = 0 ∧ e = .returned (.tuple #[.bool false, .int .i64 (refF cs t day)])) ∨
  (refF cs t day = 0 ∧ ∃ M : Mo, M.ok ∧ M.f ≤ day ∧ day < M.f + M.s ∧ e = .returned (.tuple #[.bool (hasB (daysF cs M 257 t) (day - M.f + 1)), .int .i64 0]))
set_option maxHeartbeats 4000000 in
/-- cal.In -/
theorem Gc.in_ {W w : World} (h : Gc W w) (co : Option Addr) (cc : Nat) (cs : List (ByteArray × Nd)) (g o : Nat) (V : Nat → NVal) (hc : CalsAt w co cc cs g o V) (t : Nd) (v : NVal) (hv : NdAt w v t) (day : Int) :
    Calls Tryz.prog 62 #[.slice co cs.length cc, v.val, .int .i64 day] w fun e w' => InD cs t day e ∧ Gc W w' := by
  have HG := hide h
  have HC := hide hc
  have HV := hide hv
  clear h hc hv
  obtain ⟨R, hR⟩ : ∃ R, refF cs t day = R := ⟨_, rfl⟩
  have HR := hide hR
  clear hR
  obtain ⟨nv, hnv⟩ : ∃ nv, nv = v.val := ⟨_, rfl⟩
  have HNV := hide hnv
  unfold NVal.val ndV at hnv ⊢
  go_enter Tryz.func62, Tryz.ntmps62
  go_wp2_with fail
  obtain ⟨wA, hwA⟩ : ∃ wA, wA = w.alloc (.cells #[.int .i64 v.op, .slice v.no v.nl v.nc, .slice v.ko v.kl v.kc, .string v.nm] 49) := ⟨_, rfl⟩
  have HBA : Hid (Below w.heap.size w wA) := by refine hide ?_; rw [hwA]; exact (Below.refl _ _).alloc (Nat.le_refl _) _
  have HX : Hid (wA.heap[w.heap.size]? = some (.cells #[.int .i64 v.op, .slice v.no v.nl v.nc, .slice v.ko v.kl v.kc, .string v.nm] 49 (0, 0))) := by refine hide ?_; rw [hwA]; exact heap_alloc_new w _
  rw [← hwA]
  obtain ⟨p, hp⟩ : ∃ p, p = w.heap.size := ⟨_, rfl⟩
  rw [← hp]
  have HP := hide hp
  clear hwA hp hnv
  refine ((HG.out.here.more HBA.out).here.refuse co cc cs g o V (HC.out.grew HBA.out) t v (HV.out.grew HBA.out) day).mono ?_
  rw [HR.out]
  rintro e wR ⟨rfl, hgR⟩
  have HGR := hide hgR
  have hX : wR.heap[p]? = some (.cells #[.int .i64 v.op, .slice v.no v.nl v.nc, .slice v.ko v.kl v.kc, .string v.nm] 49 (0, 0)) := by
    have hx := HX.out
    rw [← HP.out] at hx
    rw [hgR.below.block p (block_lt hx)]; exact hx
  have HXR := hide hX
  clear hX hgR
  rcases Decidable.em (R = 0) with h0 | h0
  · subst h0
    have HOKS := hide (refF_ok HR.out)
    have KP : Hid (∀ w', Below wR.heap.size wR.drew w' → w'.cell? ⟨p, 0, none⟩ = some (.int .i64 v.op) ∧ w'.cell? ⟨p, 1, none⟩ = some (.slice v.no v.nl v.nc) ∧ w'.cell? ⟨p, 2, none⟩ = some (.slice v.ko v.kl v.kc) ∧ w'.cell? ⟨p, 3, none⟩ = some (.string v.nm)) := fun w' hb =>
      ⟨Below.keeps hb (Nat.le_refl _) (a := ⟨p, 0, none⟩) (by show wR.cell? _ = _; rw [cell_of HXR.out]; rfl), Below.keeps hb (Nat.le_refl _) (a := ⟨p, 1, none⟩) (by show wR.cell? _ = _; rw [cell_of HXR.out]; rfl), Below.keeps hb (Nat.le_refl _) (a := ⟨p, 2, none⟩) (by show wR.cell? _ = _; rw [cell_of HXR.out]; rfl), Below.keeps hb (Nat.le_refl _) (a := ⟨p, 3, none⟩) (by show wR.cell? _ = _; rw [cell_of HXR.out]; rfl)⟩
    obtain ⟨k0, k1, k2, k3⟩ := KP.out wR.drew (Below.refl _ _)
    go_wp2_with fail
    first
      | (go_region_held3 (fun w' => w'.cell? ⟨p, 0, none⟩ = some (.int .i64 v.op) ∧ w'.cell? ⟨p, 1, none⟩ = some (.slice v.no v.nl v.nc) ∧ w'.cell? ⟨p, 2, none⟩ = some (.slice v.ko v.kl v.kc) ∧ w'.cell? ⟨p, 3, none⟩ = some (.string v.nm))
          (first | go_keep | (exact KP.out _ (by assumption)))
          (first
            | (go_at_call 84; refine (Gc.newAsker (W := wR.drew) HGR.out.here.drew.here co cc cs).mono ?_; rintro e w2 ⟨B, rfl, ⟨hB, hm2⟩, hg2⟩; have hb2 : Below wR.heap.size wR.drew w2 := hg2.below)
            | (go_at_call 85; refine (Gc.asking (W := w2) hg2.here.here co cc cs B 0 hm2 257 t v).mono ?_; rintro e w3 ⟨rfl, hst, hg3⟩; have hb3 : Below wR.heap.size wR.drew w3 := hb2.trans (hg3.below.mono hb2.size))))
      | fail
    have HM2 := hide hm2
    have HB3 := hide hb3
    have HST := hide hst
    have HG3 := hide hg3
    have HBB := hide hB
    have HB2 := hide hb2
    clear hm2 hb3 hst hg3 hB hb2 hg2 k0 k1 k2 k3
    go_wp2_with fail
    have hWR : Below w.heap.size w wR := HBA.out.trans (HGR.out.below.mono HBA.out.size)
    have hs1 := hWR.size
    have hs2 : wR.heap.size ≤ w2.heap.size := HB2.out.size
    have hs3 : wR.heap.size ≤ B := HBB.out
    have hs4 := HM2.out.lt
    have hW3 : Below w.heap.size w w3 := hWR.trans ((Below.refl _ _).drew.trans (HB3.out.mono hs1))
    refine (askFn cs 257 t v co cc B (w2.heap.size + 2) w2.heap.size (w2.heap.size + 1) (w2.heap.size + 3) 0 day w w3 g o V (HG.out.here.more hW3) ⟨by omega, by omega, by omega, by omega, by omega, by omega, by omega, by omega, by omega, by omega, by omega, by omega⟩ HV.out HC.out HOKS.out.1 HOKS.out.2.2.2.1 (by have := HOKS.out.2.2.2.2; omega) HOKS.out.2.1 HOKS.out.2.2.1 HST.out).mono ?_
    rintro e w4 ⟨⟨M, hM, hf1, hf2, rfl⟩, hst4, ho4⟩
    have HO4 := hide ho4
    have HW3 := hide hW3
    clear ho4 hst4 hW3 hWR
    go_wp2
    go_ret2
    refine ⟨.inr ⟨HR.out, M, hM, hf1, hf2, rfl⟩, HG.out.more ?_⟩
    exact (Only.gcS (HG.out.here.more HW3.out) HO4.out (fun i hi => by rcases hi with rfl | rfl | rfl <;> omega)).below
  · go_wp2
    go_ret2
    exact ⟨.inl ⟨by rw [HR.out]; exact h0, by rw [HR.out]; rfl⟩, HG.out.more (HBA.out.trans (HGR.out.below.mono HBA.out.size))⟩
end Go.Proofs.YtkpgfhapffijkaaGreatDoor

/- Package cal: away. -/

/- Package cal: Shift. -/
namespace Go.Proofs.YtkpgfhapffijkaaGreatDoor
open Go.ChangeShapes Go.WideShapes Go.ChangeAt Go.RowKit Go.DsMem Go.DsMk
set_option linter.unusedVariables false
theorem mo_one {M N : Mo} {day : Int} (hM : M.ok) (hN : N.ok) (m1 : M.f ≤ day) (m2 : day < M.f + M.s) (n1 : N.f ≤ day) (n2 : day < N.f + N.s) : M = N := by
  obtain ⟨y, m, f, s⟩ := M
  obtain ⟨y', m', f', s'⟩ := N
  obtain ⟨v1, hf, hs⟩ := hM
  obtain ⟨v2, hf', hs'⟩ := hN
  simp only at m1 m2 n1 n2 v1 v2 hf hs hf' hs'
  have u1 : DsCal.vld y m (day - f + 1) := ⟨v1.1, v1.2.1, by omega, by omega⟩
  have u2 : DsCal.vld y' m' (day - f' + 1) := ⟨v2.1, v2.2.1, by omega, by omega⟩
  have e1 : DsCal.num y m (day - f + 1) = day := by unfold DsCal.num at hf ⊢; omega
  have e2 : DsCal.num y' m' (day - f' + 1) = day := by unfold DsCal.num at hf' ⊢; omega
  obtain ⟨rfl, rfl, _⟩ := DsCal.num_inj u1 u2 (by rw [e1, e2])
  subst hf hs hf' hs'
  rfl
/-- whether a day is one of a node's -/
def InP (cs : List (ByteArray × Nd)) (k : Nat) (t : Nd) (day : Int) : Prop := ∃ M : Mo, M.ok ∧ M.f ≤ day ∧ day < M.f + M.s ∧ hasB (daysF cs M k t) (day - M.f + 1) = true
open Classical in
noncomputable def inB (cs : List (ByteArray × Nd)) (k : Nat) (t : Nd) (day : Int) : Bool := decide (InP cs k t day)
open Classical in
theorem inB_eq {cs : List (ByteArray × Nd)} {k : Nat} {t : Nd} {day : Int} {M : Mo} (hM : M.ok) (m1 : M.f ≤ day) (m2 : day < M.f + M.s) : hasB (daysF cs M k t) (day - M.f + 1) = inB cs k t day := by
  cases hb : hasB (daysF cs M k t) (day - M.f + 1) with
  | true => exact (decide_eq_true (p := InP cs k t day) ⟨M, hM, m1, m2, hb⟩).symm
  | false =>
    refine (decide_eq_false (p := InP cs k t day) ?_).symm
    rintro ⟨N, hN, n1, n2, h⟩
    obtain rfl := mo_one hM hN m1 m2 n1 n2
    rw [hb] at h
    cases h
end Go.Proofs.YtkpgfhapffijkaaGreatDoor

/- Package cal: Due. -/

/- Layer 6's law: Count, day; cal.In by inB. -/
namespace Go.Proofs.YtkpgfhapffijkaaGreatDoor
open Go.ChangeShapes Go.WideShapes Go.ChangeAt Go.RowKit Go.DsMem Go.DsMk
set_option linter.unusedVariables false
/-- a number from 0 to one below n -/
def cnt (k n : Int) : Int := if n < 1 then 0 else k % n
theorem cnt_lt {k n : Int} (h : 1 ≤ n) : 0 ≤ cnt k n ∧ cnt k n < n := by
  unfold cnt
  rw [if_neg (by omega)]
  exact ⟨Int.emod_nonneg _ (by omega), Int.emod_lt_of_pos _ (by omega)⟩
theorem tmod_facts (k n : Int) (hn : 1 ≤ n) : -n < k.tmod n ∧ k.tmod n < n ∧ (k.tmod n < 0 → k.tmod n + n = k % n) ∧ (¬ k.tmod n < 0 → k.tmod n = k % n) := by
  have h1 := Int.emod_nonneg k (show n ≠ 0 by omega)
  have h2 := Int.emod_lt_of_pos k (show 0 < n by omega)
  have h3 := Int.tmod_eq_emod (a := k) (b := n)
  have h4 : (n.natAbs : Int) = n := by omega
  rw [h3]
  split
  · refine ⟨by omega, by omega, by omega, by omega⟩
  · rename_i h
    have : k % n ≠ 0 := fun h0 => h (.inr (Int.dvd_of_emod_eq_zero h0))
    rw [h4]
    refine ⟨by omega, by omega, by omega, by omega⟩
set_option maxHeartbeats 1000000 in
/-- dayshiftref01.Count -/
theorem cnt_any (k n : Int) (w : World) (hk : -9223372036854775808 ≤ k ∧ k ≤ 9223372036854775807) (hn : 1 ≤ n ∧ n ≤ 9223372036854775807) :
    Calls Tryz.prog 14 #[.int .i64 k, .int .i64 n] w fun e w' => e = .returned (.int .i64 (cnt k n)) ∧ w' = w := by
  obtain ⟨hk1, hk2⟩ := hk
  obtain ⟨hn1, hn2⟩ := hn
  obtain ⟨t1, t2, t3, t4⟩ := tmod_facts k n hn1
  have HE : Hid (cnt k n = k % n) := by show _ = _; unfold cnt; rw [if_neg (by omega)]
  obtain ⟨r, hr⟩ : ∃ r, r = k.tmod n := ⟨_, rfl⟩
  rw [← hr] at t1 t2 t3 t4
  have hn0 : ¬ n = 0 := by omega
  by_cases h0 : r < 0
  · have HR := hide (t3 h0)
    clear t3 t4
    go_enter Tryz.func14, Tryz.ntmps14
    go_wp2
    go_ret
    exact ⟨ret_int (by rw [HE.out, ← HR.out, hr]), rfl⟩
  · have HR := hide (t4 h0)
    clear t3 t4
    go_enter Tryz.func14, Tryz.ntmps14
    go_wp2
    go_ret
    exact ⟨ret_int (by rw [HE.out, ← HR.out, hr]), rfl⟩
/-- what In answers, by inB -/
noncomputable def inF (cs : List (ByteArray × Nd)) (t : Nd) (day : Int) : Bool × Int := if refF cs t day = 0 then (inB cs 257 t day, 0) else (false, refF cs t day)
theorem Gc.inAny {W w : World} (h : Gc W w) (co : Option Addr) (cc : Nat) (cs : List (ByteArray × Nd)) (g o : Nat) (V : Nat → NVal) (hc : CalsAt w co cc cs g o V) (t : Nd) (v : NVal) (hv : NdAt w v t) (day : Int) :
    Calls Tryz.prog 62 #[.slice co cs.length cc, v.val, .int .i64 day] w fun e w' => e = .returned (.tuple #[.bool (inF cs t day).1, .int .i64 (inF cs t day).2]) ∧ Gc W w' :=
  (h.in_ co cc cs g o V hc t v hv day).mono fun e w' ⟨hi, hg⟩ => by
    refine ⟨?_, hg⟩
    rcases hi with ⟨h0, rfl⟩ | ⟨h0, M, hM, m1, m2, rfl⟩
    · have : inF cs t day = (false, refF cs t day) := if_neg h0
      rw [this]
    · have : inF cs t day = (inB cs 257 t day, 0) := if_pos h0
      rw [this, inB_eq hM m1 m2]
end Go.Proofs.YtkpgfhapffijkaaGreatDoor
