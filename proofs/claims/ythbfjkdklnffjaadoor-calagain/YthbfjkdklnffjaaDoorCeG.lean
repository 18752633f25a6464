/- Package cal: the walk of joined (written by gen_ceg.py). -/
import Derived.Test.YthbfjkdklnffjaaDoorCeF
namespace Go.Proofs.YthbfjkdklnffjaaDoor
open Go.ChangeShapes Go.WideShapes Go.ChangeAt Go.RowKit Go.DsMem Go.DsMk
set_option linter.unusedVariables false

def MemoLe (cs : List (ByteArray × Nd)) (w : World) (B m : Nat) : Prop := ∃ n', n' ≤ m ∧ Memo cs w B n'
def costL (cs : List (ByteArray × Nd)) (k : Nat) (l : List Nd) : Nat := l.foldl (fun a c => a + costF cs k c) 1
theorem costL_snoc (cs : List (ByteArray × Nd)) (k : Nat) (l : List Nd) (c : Nd) : costL cs k (l ++ [c]) = costL cs k l + costF cs k c := by unfold costL; rw [List.foldl_append]; rfl
theorem costL_take (cs : List (ByteArray × Nd)) (k : Nat) (l : List Nd) (i : Nat) : costL cs k (l.take i) ≤ costL cs k l := by
  have e : costL cs k l = (l.drop i).foldl (fun a c => a + costF cs k c) (costL cs k (l.take i)) := by unfold costL; rw [← List.foldl_append, List.take_append_drop]
  rw [e]
  exact foldl_keep (fun a b : Nat => a ≤ b) (fun _ => Nat.le_refl _) (fun _ _ _ => Nat.le_trans) _ _ (fun a c _ => Nat.le_add_right _ _) _

def joinL7 (cs : List (ByteArray × Nd)) (M : Mo) (k : Nat) (c : Nd) (l : List Nd) : Nat := l.foldl (fun a c => a &&& daysF cs M k c) (daysF cs M k c)
theorem joinL7_lt (cs : List (ByteArray × Nd)) (M : Mo) (k : Nat) (c : Nd) (l : List Nd) : joinL7 cs M k c l < 2147483648 :=
  foldl_keep (fun a b : Nat => a < 2147483648 → b < 2147483648) (fun _ h => h) (fun _ _ _ h1 h2 h => h2 (h1 h)) _ _ (fun a c _ ha => Nat.lt_of_le_of_lt Nat.and_le_left ha) _ (daysF_lt cs M k c)
set_option maxHeartbeats 8000000 in
set_option maxRecDepth 20000 in
theorem joined7 (k : Nat) (ih : DaysOk k) (c0 : Nd) (rest : List Nd) (K : Nat → NVal) (kg kO : Nat) (no : Option Addr) (nl nc : Nat) (kc : Nat) (nm : ByteArray) (M : Mo) (n : Nat) (W w : World) (B : Nat) (co : Option Addr) (cc : Nat) (cs : List (ByteArray × Nd)) (g o : Nat) (V : Nat → NVal)
    (h : Gc W w) (hp : W.heap.size ≤ B) (hc : CalsAt W co cc cs g o V) (h24 : cs.length ≤ 24) (hm : Memo cs w B n) (hM : M.ok) (hkl : rest.length ≤ 7) (hkc : rest.length + 1 ≤ kc)
    (hin : ∀ j, j < rest.length + 1 → NIn W kg (kO + j * 4) (K j)) (hnd0 : NdAt W (K 0) c0) (hnd : ∀ j (hj : j < rest.length), NdAt W (K (j + 1)) rest[j]) (hk0 : okD cs k c0) (hk : ∀ c ∈ rest, okD cs k c) (hn : n + costL cs k (c0 :: rest) ≤ 100000) :
    Calls Tryd.prog 42 #[askrV co cs.length cc B, ndV 7 no nl nc (some ⟨kg, kO, none⟩) (rest.length + 1) kc nm, M.val] w (Dayd cs w B (n + costL cs k (c0 :: rest)) (joinL7 cs M k c0 rest)) := by
  have HIH := hide ih
  have HG := hide h
  have HC := hide hc
  have HMM := hide hm
  have HMO := hide hM
  have HK0 := hide hk0
  have HK := hide hk
  have HIN := hide hin
  have HND := hide hnd
  have HND0 := hide hnd0
  clear ih h hc hm hM hk0 hk hin hnd hnd0
  have hB : B < w.heap.size := HMM.out.lt
  have HC0 : Hid (costL cs k [c0] = 1 + costF cs k c0) := rfl
  have hct := costL_take cs k (c0 :: rest) 1
  obtain ⟨wA, hwA⟩ : ∃ wA, wA = ((w.alloc (.cells #[.slice co cs.length cc, .map (some B)] 53)).alloc (.cells #[.int .i64 7, .slice no nl nc, .slice (some ⟨kg, kO, none⟩) (rest.length + 1) kc, .string nm] 31)).alloc (.cells #[.int .i64 M.y, .int .i64 M.m, .int .i64 M.f, .int .i64 M.s] 67) := ⟨_, rfl⟩
  have HBX : Hid (Bxs wA w.heap.size co cs.length cc B 7 no nl nc (some ⟨kg, kO, none⟩) (rest.length + 1) kc nm M) := by rw [hwA]; exact Bxs.new _ _ _ _ _ _ _ _ _ _ _ _ _ _
  have HBL : Hid (Below w.heap.size w wA) := by rw [hwA]; exact below3 w _ _ _
  have HGA : Hid (Gc W wA) := HG.out.more HBL.out
  have HMA : Hid (Memo cs wA B n) := HMM.out.below HBL.out
  have HCALL := hide (HIH.out c0 (K 0) M n W wA.drew B co cc cs g o V HGA.out.drew hp HND0.out HC.out h24 (HMA.out.below (Below.refl _ _).drew) HMO.out HK0.out (by have := HC0.out; simp only [List.take_succ_cons, List.take_zero] at hct; omega))
  unfold askrV NVal.val ndV Mo.val moV at HCALL
  obtain ⟨k0, k1, k2, k3⟩ := (HIN.out 0 (by omega)).mono (fun a u hc => Below.keeps HGA.out.below (Nat.le_refl _) hc)
  have z0 : kO + 0 * 4 = kO := by omega
  rw [z0] at k0 k1 k2 k3
  have hkgW : kg < W.heap.size := World.block_lt_of_cell? W _ (HIN.out 0 (by omega)).c0
  clear z0
  unfold askrV ndV Mo.val moV
  go_enter Tryd.func42, Tryd.ntmps42
  go_wp2
  rw [← hwA]
  clear hwA
  generalize hpp : w.heap.size = p at HBX ⊢
  obtain ⟨a0, a1, n0, n1, n2, n3, m0, m1, m2, m3⟩ := HBX.out
  have hkB : ¬ kg = B := by omega
  have hkl1 : (0 : Int) < ((rest.length + 1 : Nat) : Int) := by omega
  generalize hkv : K 0 = kv at *
  have KPO : Hid (∀ w', Only (· = B) wA.drew w' → w'.cell? ⟨p, 0, none⟩ = some (.slice co cs.length cc) ∧ w'.cell? ⟨p, 1, none⟩ = some (.map (some B)) ∧ w'.cell? ⟨p + 1, 2, none⟩ = some (.slice (some ⟨kg, kO, none⟩) (rest.length + 1) kc) ∧ w'.cell? ⟨p + 2, 0, none⟩ = some (.int .i64 M.y) ∧ w'.cell? ⟨p + 2, 1, none⟩ = some (.int .i64 M.m) ∧ w'.cell? ⟨p + 2, 2, none⟩ = some (.int .i64 M.f) ∧ w'.cell? ⟨p + 2, 3, none⟩ = some (.int .i64 M.s) ∧ w'.cell? ⟨kg, kO, none⟩ = some (.int .i64 kv.op) ∧ w'.cell? ⟨kg, kO + 1, none⟩ = some (.slice kv.no kv.nl kv.nc) ∧ w'.cell? ⟨kg, kO + 2, none⟩ = some (.slice kv.ko kv.kl kv.kc) ∧ w'.cell? ⟨kg, kO + 3, none⟩ = some (.string kv.nm)) := fun w' ho => by
    have hx := (HBX.out.below (Below.refl _ _).drew).only ho (by omega)
    exact ⟨hx.a0, hx.a1, hx.n2, hx.m0, hx.m1, hx.m2, hx.m3, ho.cell (w := wA.drew) k0 hkB, ho.cell (w := wA.drew) k1 hkB, ho.cell (w := wA.drew) k2 hkB, ho.cell (w := wA.drew) k3 hkB⟩
  first
    | (go_region_held3 (fun w' => w'.cell? ⟨p, 0, none⟩ = some (.slice co cs.length cc) ∧ w'.cell? ⟨p, 1, none⟩ = some (.map (some B)) ∧ w'.cell? ⟨p + 1, 2, none⟩ = some (.slice (some ⟨kg, kO, none⟩) (rest.length + 1) kc) ∧ w'.cell? ⟨p + 2, 0, none⟩ = some (.int .i64 M.y) ∧ w'.cell? ⟨p + 2, 1, none⟩ = some (.int .i64 M.m) ∧ w'.cell? ⟨p + 2, 2, none⟩ = some (.int .i64 M.f) ∧ w'.cell? ⟨p + 2, 3, none⟩ = some (.int .i64 M.s) ∧ w'.cell? ⟨kg, kO, none⟩ = some (.int .i64 kv.op) ∧ w'.cell? ⟨kg, kO + 1, none⟩ = some (.slice kv.no kv.nl kv.nc) ∧ w'.cell? ⟨kg, kO + 2, none⟩ = some (.slice kv.ko kv.kl kv.kc) ∧ w'.cell? ⟨kg, kO + 3, none⟩ = some (.string kv.nm))
        (first | go_keep | (exact KPO.out _ (by assumption)))
        ((go_at_call 27; refine HCALL.out.mono ?_; rintro e w2 ⟨rfl, hmem, hon⟩)))
    | fail
  have HM2 := hide hmem
  have HON := hide hon
  clear hmem hon a0 a1 n0 n1 n2 n3 m0 m1 m2 m3 k0 k1 k2 k3
  obtain ⟨a0, a1, n2, m0, m1, m2, m3, -⟩ := KPO.out w2 HON.out
  have HJ2 : Hid (MemoLe cs w2 B (n + costL cs k [c0])) := by
    obtain ⟨n', h1, h2⟩ := HM2.out
    exact ⟨n', by have := HC0.out; omega, h2⟩
  have HOW : Hid (Only (· = B) w w2) := (Only.below HBL.out).drew.trans HON.out (fun _ _ h => h)
  by_cases hk1 : kc = 1
  · obtain rfl : rest = [] := List.eq_nil_of_length_eq_zero (by omega)
    subst hk1
    go_wp2
    refine wp_loop_rounds 1 ?_
    rw [rounds_succ]
    go_wp2
    go_ret
    obtain ⟨n', h1, h2⟩ := HJ2.out
    exact Dayd.of ⟨rfl, ⟨n', h1, h2⟩, HOW.out⟩
  go_wp2
  have BXS : Hid (∀ w', Only (· = B) w2 w' → Bxs w' p co cs.length cc B 7 no nl nc (some ⟨kg, kO, none⟩) (rest.length + 1) kc nm M) := fun w' ho => (HBX.out.below (Below.refl _ _).drew).only (HON.out.trans ho (fun _ _ h => h)) (by omega)
  have HGC2 : Hid (∀ w', Only (· = B) w2 w' → Gc W w') := fun w' ho => Only.gc (Only.gc HGA.out.drew HON.out hp) ho hp
  clear a0 a1 n2 m0 m1 m2 m3
  go_loopw [7, 21] (fun d t wr => ∃ i : Nat, i ≤ rest.length ∧ t = .int .i64 i ∧ d = .int .u32 (joinL7 cs M k c0 (rest.take i)) ∧ MemoLe cs wr B (n + costL cs k (c0 :: rest.take i)) ∧ Only (· = B) w2 wr) (fun _ t _ => rest.length - (intOf t).toNat)
  case atStart => exact ⟨0, Nat.zero_le _, rfl, rfl, HJ2.out, Only.refl _ _⟩
  case round =>
    obtain ⟨i, hi, rfl, rfl, hml, hon⟩ := hrel
    have HML := hide hml
    have HONr := hide hon
    clear hml hon
    obtain ⟨a0, a1, n0, n1, n2, n3, m0, m1, m2, m3⟩ := BXS.out wr HONr.out
    by_cases hlt : i < rest.length
    · have HGr := hide (HGC2.out wr HONr.out)
      have HTK : Hid (rest.take (i + 1) = rest.take i ++ [rest[i]]) := List.take_succ_eq_append_getElem hlt
      have HKI := hide (HK.out rest[i] (List.getElem_mem hlt))
      have HNDi := hide (HND.out i hlt)
      have hin := (HIN.out (i + 1) (by omega)).mono (fun a u hc => Below.keeps HGr.out.below (Nat.le_refl _) hc)
      rw [show kO + (i + 1) * 4 = kO + 4 + i * 4 by omega] at hin
      obtain ⟨k0, k1, k2, k3⟩ := hin
      have HCT : Hid (costL cs k (c0 :: rest.take (i + 1)) = costL cs k (c0 :: rest.take i) + costF cs k rest[i]) := by show _ = _; rw [HTK.out, ← List.cons_append, costL_snoc]
      have hct2 := costL_take cs k (c0 :: rest) (i + 2)
      rw [List.take_succ_cons] at hct2
      have HJT : Hid (joinL7 cs M k c0 (rest.take (i + 1)) = joinL7 cs M k c0 (rest.take i) &&& daysF cs M k rest[i]) := by show _ = _; rw [HTK.out]; unfold joinL7; rw [List.foldl_append]; rfl
      have hjl := joinL7_lt cs M k c0 (rest.take i)
      have hdl := daysF_lt cs M k rest[i]
      generalize rest[i] = ct at *
      generalize K (i + 1) = kw at *
      obtain ⟨nr, hnr, hmr⟩ := HML.out
      have HMR := hide hmr
      have HNR := hide hnr
      clear hmr hnr
      obtain ⟨wC, hwC⟩ : ∃ wC, wC = wr.alloc (.cells #[.int .i64 kw.op, .slice kw.no kw.nl kw.nc, .slice kw.ko kw.kl kw.kc, .string kw.nm] 31) := ⟨_, rfl⟩
      have HBC : Hid (Below wr.heap.size wr wC) := by rw [hwC]; exact (Below.refl _ _).alloc (Nat.le_refl _) _
      have HCALL2 := hide (HIH.out ct kw M nr W wC B co cc cs g o V (HGr.out.more HBC.out) hp HNDi.out HC.out h24 (HMR.out.below HBC.out) HMO.out HKI.out (by have := HCT.out; have := HNR.out; omega))
      unfold askrV NVal.val ndV Mo.val moV at HCALL2
      have ebit := and32 (joinL7 cs M k c0 (rest.take i)) (daysF cs M k ct) (by omega) (by omega)
      have hpr : p + 2 < wr.heap.size := World.block_lt_of_cell? wr _ m0
      have hpr0 : p < wr.heap.size := by omega
      have hpr1 : p + 1 < wr.heap.size := by omega
      have hpr2 : p + 1 + 1 < wr.heap.size := by omega
      have ne0 : ¬ p = wr.heap.size := by omega
      have ne3 : ¬ p + 1 + 1 = wr.heap.size := by omega
      have m0' : wr.cell? ⟨p + 1 + 1, 0, none⟩ = some (.int .i64 M.y) := m0
      have m1' : wr.cell? ⟨p + 1 + 1, 1, none⟩ = some (.int .i64 M.m) := m1
      have m2' : wr.cell? ⟨p + 1 + 1, 2, none⟩ = some (.int .i64 M.f) := m2
      have m3' : wr.cell? ⟨p + 1 + 1, 3, none⟩ = some (.int .i64 M.s) := m3
      have ne1 : ¬ p + 1 = wr.heap.size := by omega
      have ne2 : ¬ p + 2 = wr.heap.size := by omega
      generalize hJe : joinL7 cs M k c0 (rest.take i) = J at *
      generalize hDe : daysF cs M k ct = Dd at *
      clear hJe hDe
      go_wp2_with fail
      rw [← hwC]
      refine HCALL2.out.mono ?_
      rintro e w3 ⟨rfl, hmem3, hon3⟩
      have HM3 : Hid (MemoLe cs w3 B (n + costL cs k (c0 :: rest.take (i + 1)))) := by
        obtain ⟨n3', h1, h2⟩ := hmem3
        exact ⟨n3', by have := HCT.out; have := HNR.out; omega, h2⟩
      have HON3 : Hid (Only (· = B) w2 w3) := HONr.out.trans ((Only.below HBC.out).trans hon3 (fun _ _ h => h)) (fun _ _ h => h)
      clear hmem3 hon3 hwC m0' m1' m2' m3' a0 a1 n0 n1 n2 n3 m0 m1 m2 m3 k0 k1 k2 k3
      go_wp2
      go_roundw
      case rel => exact ⟨i + 1, by omega, by go_num, by rw [HJT.out], HM3.out, HON3.out⟩
      case measure => simp [intOf]; omega
    · have HE : Hid (rest.take i = rest) := List.take_of_length_le (by omega)
      go_wp2
      go_ret
      obtain ⟨nr, hnr, hmr⟩ := HML.out
      rw [HE.out] at hnr
      exact Dayd.of ⟨ret_int (by rw [HE.out]), ⟨nr, hnr, hmr⟩, HOW.out.trans HONr.out (fun _ _ h => h)⟩

def joinL8 (cs : List (ByteArray × Nd)) (M : Mo) (k : Nat) (c : Nd) (l : List Nd) : Nat := l.foldl (fun a c => a ||| daysF cs M k c) (daysF cs M k c)
theorem joinL8_lt (cs : List (ByteArray × Nd)) (M : Mo) (k : Nat) (c : Nd) (l : List Nd) : joinL8 cs M k c l < 2147483648 :=
  foldl_keep (fun a b : Nat => a < 2147483648 → b < 2147483648) (fun _ h => h) (fun _ _ _ h1 h2 h => h2 (h1 h)) _ _ (fun a c _ ha => Nat.or_lt_two_pow (n := 31) ha (daysF_lt cs M k c)) _ (daysF_lt cs M k c)
set_option maxHeartbeats 8000000 in
set_option maxRecDepth 20000 in
theorem joined8 (k : Nat) (ih : DaysOk k) (c0 : Nd) (rest : List Nd) (K : Nat → NVal) (kg kO : Nat) (no : Option Addr) (nl nc : Nat) (kc : Nat) (nm : ByteArray) (M : Mo) (n : Nat) (W w : World) (B : Nat) (co : Option Addr) (cc : Nat) (cs : List (ByteArray × Nd)) (g o : Nat) (V : Nat → NVal)
    (h : Gc W w) (hp : W.heap.size ≤ B) (hc : CalsAt W co cc cs g o V) (h24 : cs.length ≤ 24) (hm : Memo cs w B n) (hM : M.ok) (hkl : rest.length ≤ 7) (hkc : rest.length + 1 ≤ kc)
    (hin : ∀ j, j < rest.length + 1 → NIn W kg (kO + j * 4) (K j)) (hnd0 : NdAt W (K 0) c0) (hnd : ∀ j (hj : j < rest.length), NdAt W (K (j + 1)) rest[j]) (hk0 : okD cs k c0) (hk : ∀ c ∈ rest, okD cs k c) (hn : n + costL cs k (c0 :: rest) ≤ 100000) :
    Calls Tryd.prog 42 #[askrV co cs.length cc B, ndV 8 no nl nc (some ⟨kg, kO, none⟩) (rest.length + 1) kc nm, M.val] w (Dayd cs w B (n + costL cs k (c0 :: rest)) (joinL8 cs M k c0 rest)) := by
  have HIH := hide ih
  have HG := hide h
  have HC := hide hc
  have HMM := hide hm
  have HMO := hide hM
  have HK0 := hide hk0
  have HK := hide hk
  have HIN := hide hin
  have HND := hide hnd
  have HND0 := hide hnd0
  clear ih h hc hm hM hk0 hk hin hnd hnd0
  have hB : B < w.heap.size := HMM.out.lt
  have HC0 : Hid (costL cs k [c0] = 1 + costF cs k c0) := rfl
  have hct := costL_take cs k (c0 :: rest) 1
  obtain ⟨wA, hwA⟩ : ∃ wA, wA = ((w.alloc (.cells #[.slice co cs.length cc, .map (some B)] 53)).alloc (.cells #[.int .i64 8, .slice no nl nc, .slice (some ⟨kg, kO, none⟩) (rest.length + 1) kc, .string nm] 31)).alloc (.cells #[.int .i64 M.y, .int .i64 M.m, .int .i64 M.f, .int .i64 M.s] 67) := ⟨_, rfl⟩
  have HBX : Hid (Bxs wA w.heap.size co cs.length cc B 8 no nl nc (some ⟨kg, kO, none⟩) (rest.length + 1) kc nm M) := by rw [hwA]; exact Bxs.new _ _ _ _ _ _ _ _ _ _ _ _ _ _
  have HBL : Hid (Below w.heap.size w wA) := by rw [hwA]; exact below3 w _ _ _
  have HGA : Hid (Gc W wA) := HG.out.more HBL.out
  have HMA : Hid (Memo cs wA B n) := HMM.out.below HBL.out
  have HCALL := hide (HIH.out c0 (K 0) M n W wA.drew B co cc cs g o V HGA.out.drew hp HND0.out HC.out h24 (HMA.out.below (Below.refl _ _).drew) HMO.out HK0.out (by have := HC0.out; simp only [List.take_succ_cons, List.take_zero] at hct; omega))
  unfold askrV NVal.val ndV Mo.val moV at HCALL
  obtain ⟨k0, k1, k2, k3⟩ := (HIN.out 0 (by omega)).mono (fun a u hc => Below.keeps HGA.out.below (Nat.le_refl _) hc)
  have z0 : kO + 0 * 4 = kO := by omega
  rw [z0] at k0 k1 k2 k3
  have hkgW : kg < W.heap.size := World.block_lt_of_cell? W _ (HIN.out 0 (by omega)).c0
  clear z0
  unfold askrV ndV Mo.val moV
  go_enter Tryd.func42, Tryd.ntmps42
  go_wp2
  rw [← hwA]
  clear hwA
  generalize hpp : w.heap.size = p at HBX ⊢
  obtain ⟨a0, a1, n0, n1, n2, n3, m0, m1, m2, m3⟩ := HBX.out
  have hkB : ¬ kg = B := by omega
  have hkl1 : (0 : Int) < ((rest.length + 1 : Nat) : Int) := by omega
  generalize hkv : K 0 = kv at *
  have KPO : Hid (∀ w', Only (· = B) wA.drew w' → w'.cell? ⟨p, 0, none⟩ = some (.slice co cs.length cc) ∧ w'.cell? ⟨p, 1, none⟩ = some (.map (some B)) ∧ w'.cell? ⟨p + 1, 2, none⟩ = some (.slice (some ⟨kg, kO, none⟩) (rest.length + 1) kc) ∧ w'.cell? ⟨p + 2, 0, none⟩ = some (.int .i64 M.y) ∧ w'.cell? ⟨p + 2, 1, none⟩ = some (.int .i64 M.m) ∧ w'.cell? ⟨p + 2, 2, none⟩ = some (.int .i64 M.f) ∧ w'.cell? ⟨p + 2, 3, none⟩ = some (.int .i64 M.s) ∧ w'.cell? ⟨kg, kO, none⟩ = some (.int .i64 kv.op) ∧ w'.cell? ⟨kg, kO + 1, none⟩ = some (.slice kv.no kv.nl kv.nc) ∧ w'.cell? ⟨kg, kO + 2, none⟩ = some (.slice kv.ko kv.kl kv.kc) ∧ w'.cell? ⟨kg, kO + 3, none⟩ = some (.string kv.nm)) := fun w' ho => by
    have hx := (HBX.out.below (Below.refl _ _).drew).only ho (by omega)
    exact ⟨hx.a0, hx.a1, hx.n2, hx.m0, hx.m1, hx.m2, hx.m3, ho.cell (w := wA.drew) k0 hkB, ho.cell (w := wA.drew) k1 hkB, ho.cell (w := wA.drew) k2 hkB, ho.cell (w := wA.drew) k3 hkB⟩
  first
    | (go_region_held3 (fun w' => w'.cell? ⟨p, 0, none⟩ = some (.slice co cs.length cc) ∧ w'.cell? ⟨p, 1, none⟩ = some (.map (some B)) ∧ w'.cell? ⟨p + 1, 2, none⟩ = some (.slice (some ⟨kg, kO, none⟩) (rest.length + 1) kc) ∧ w'.cell? ⟨p + 2, 0, none⟩ = some (.int .i64 M.y) ∧ w'.cell? ⟨p + 2, 1, none⟩ = some (.int .i64 M.m) ∧ w'.cell? ⟨p + 2, 2, none⟩ = some (.int .i64 M.f) ∧ w'.cell? ⟨p + 2, 3, none⟩ = some (.int .i64 M.s) ∧ w'.cell? ⟨kg, kO, none⟩ = some (.int .i64 kv.op) ∧ w'.cell? ⟨kg, kO + 1, none⟩ = some (.slice kv.no kv.nl kv.nc) ∧ w'.cell? ⟨kg, kO + 2, none⟩ = some (.slice kv.ko kv.kl kv.kc) ∧ w'.cell? ⟨kg, kO + 3, none⟩ = some (.string kv.nm))
        (first | go_keep | (exact KPO.out _ (by assumption)))
        ((go_at_call 27; refine HCALL.out.mono ?_; rintro e w2 ⟨rfl, hmem, hon⟩)))
    | fail
  have HM2 := hide hmem
  have HON := hide hon
  clear hmem hon a0 a1 n0 n1 n2 n3 m0 m1 m2 m3 k0 k1 k2 k3
  obtain ⟨a0, a1, n2, m0, m1, m2, m3, -⟩ := KPO.out w2 HON.out
  have HJ2 : Hid (MemoLe cs w2 B (n + costL cs k [c0])) := by
    obtain ⟨n', h1, h2⟩ := HM2.out
    exact ⟨n', by have := HC0.out; omega, h2⟩
  have HOW : Hid (Only (· = B) w w2) := (Only.below HBL.out).drew.trans HON.out (fun _ _ h => h)
  by_cases hk1 : kc = 1
  · obtain rfl : rest = [] := List.eq_nil_of_length_eq_zero (by omega)
    subst hk1
    go_wp2
    refine wp_loop_rounds 1 ?_
    rw [rounds_succ]
    go_wp2
    go_ret
    obtain ⟨n', h1, h2⟩ := HJ2.out
    exact Dayd.of ⟨rfl, ⟨n', h1, h2⟩, HOW.out⟩
  go_wp2
  have BXS : Hid (∀ w', Only (· = B) w2 w' → Bxs w' p co cs.length cc B 8 no nl nc (some ⟨kg, kO, none⟩) (rest.length + 1) kc nm M) := fun w' ho => (HBX.out.below (Below.refl _ _).drew).only (HON.out.trans ho (fun _ _ h => h)) (by omega)
  have HGC2 : Hid (∀ w', Only (· = B) w2 w' → Gc W w') := fun w' ho => Only.gc (Only.gc HGA.out.drew HON.out hp) ho hp
  clear a0 a1 n2 m0 m1 m2 m3
  go_loopw [7, 21] (fun d t wr => ∃ i : Nat, i ≤ rest.length ∧ t = .int .i64 i ∧ d = .int .u32 (joinL8 cs M k c0 (rest.take i)) ∧ MemoLe cs wr B (n + costL cs k (c0 :: rest.take i)) ∧ Only (· = B) w2 wr) (fun _ t _ => rest.length - (intOf t).toNat)
  case atStart => exact ⟨0, Nat.zero_le _, rfl, rfl, HJ2.out, Only.refl _ _⟩
  case round =>
    obtain ⟨i, hi, rfl, rfl, hml, hon⟩ := hrel
    have HML := hide hml
    have HONr := hide hon
    clear hml hon
    obtain ⟨a0, a1, n0, n1, n2, n3, m0, m1, m2, m3⟩ := BXS.out wr HONr.out
    by_cases hlt : i < rest.length
    · have HGr := hide (HGC2.out wr HONr.out)
      have HTK : Hid (rest.take (i + 1) = rest.take i ++ [rest[i]]) := List.take_succ_eq_append_getElem hlt
      have HKI := hide (HK.out rest[i] (List.getElem_mem hlt))
      have HNDi := hide (HND.out i hlt)
      have hin := (HIN.out (i + 1) (by omega)).mono (fun a u hc => Below.keeps HGr.out.below (Nat.le_refl _) hc)
      rw [show kO + (i + 1) * 4 = kO + 4 + i * 4 by omega] at hin
      obtain ⟨k0, k1, k2, k3⟩ := hin
      have HCT : Hid (costL cs k (c0 :: rest.take (i + 1)) = costL cs k (c0 :: rest.take i) + costF cs k rest[i]) := by show _ = _; rw [HTK.out, ← List.cons_append, costL_snoc]
      have hct2 := costL_take cs k (c0 :: rest) (i + 2)
      rw [List.take_succ_cons] at hct2
      have HJT : Hid (joinL8 cs M k c0 (rest.take (i + 1)) = joinL8 cs M k c0 (rest.take i) ||| daysF cs M k rest[i]) := by show _ = _; rw [HTK.out]; unfold joinL8; rw [List.foldl_append]; rfl
      have hjl := joinL8_lt cs M k c0 (rest.take i)
      have hdl := daysF_lt cs M k rest[i]
      generalize rest[i] = ct at *
      generalize K (i + 1) = kw at *
      obtain ⟨nr, hnr, hmr⟩ := HML.out
      have HMR := hide hmr
      have HNR := hide hnr
      clear hmr hnr
      obtain ⟨wC, hwC⟩ : ∃ wC, wC = wr.alloc (.cells #[.int .i64 kw.op, .slice kw.no kw.nl kw.nc, .slice kw.ko kw.kl kw.kc, .string kw.nm] 31) := ⟨_, rfl⟩
      have HBC : Hid (Below wr.heap.size wr wC) := by rw [hwC]; exact (Below.refl _ _).alloc (Nat.le_refl _) _
      have HCALL2 := hide (HIH.out ct kw M nr W wC B co cc cs g o V (HGr.out.more HBC.out) hp HNDi.out HC.out h24 (HMR.out.below HBC.out) HMO.out HKI.out (by have := HCT.out; have := HNR.out; omega))
      unfold askrV NVal.val ndV Mo.val moV at HCALL2
      have ebit := or32 (joinL8 cs M k c0 (rest.take i)) (daysF cs M k ct) (by omega) (by omega)
      have hpr : p + 2 < wr.heap.size := World.block_lt_of_cell? wr _ m0
      have hpr0 : p < wr.heap.size := by omega
      have hpr1 : p + 1 < wr.heap.size := by omega
      have hpr2 : p + 1 + 1 < wr.heap.size := by omega
      have ne0 : ¬ p = wr.heap.size := by omega
      have ne3 : ¬ p + 1 + 1 = wr.heap.size := by omega
      have m0' : wr.cell? ⟨p + 1 + 1, 0, none⟩ = some (.int .i64 M.y) := m0
      have m1' : wr.cell? ⟨p + 1 + 1, 1, none⟩ = some (.int .i64 M.m) := m1
      have m2' : wr.cell? ⟨p + 1 + 1, 2, none⟩ = some (.int .i64 M.f) := m2
      have m3' : wr.cell? ⟨p + 1 + 1, 3, none⟩ = some (.int .i64 M.s) := m3
      have ne1 : ¬ p + 1 = wr.heap.size := by omega
      have ne2 : ¬ p + 2 = wr.heap.size := by omega
      generalize hJe : joinL8 cs M k c0 (rest.take i) = J at *
      generalize hDe : daysF cs M k ct = Dd at *
      clear hJe hDe
      go_wp2_with fail
      rw [← hwC]
      refine HCALL2.out.mono ?_
      rintro e w3 ⟨rfl, hmem3, hon3⟩
      have HM3 : Hid (MemoLe cs w3 B (n + costL cs k (c0 :: rest.take (i + 1)))) := by
        obtain ⟨n3', h1, h2⟩ := hmem3
        exact ⟨n3', by have := HCT.out; have := HNR.out; omega, h2⟩
      have HON3 : Hid (Only (· = B) w2 w3) := HONr.out.trans ((Only.below HBC.out).trans hon3 (fun _ _ h => h)) (fun _ _ h => h)
      clear hmem3 hon3 hwC m0' m1' m2' m3' a0 a1 n0 n1 n2 n3 m0 m1 m2 m3 k0 k1 k2 k3
      go_wp2
      go_roundw
      case rel => exact ⟨i + 1, by omega, by go_num, by rw [HJT.out], HM3.out, HON3.out⟩
      case measure => simp [intOf]; omega
    · have HE : Hid (rest.take i = rest) := List.take_of_length_le (by omega)
      go_wp2
      go_ret
      obtain ⟨nr, hnr, hmr⟩ := HML.out
      rw [HE.out] at hnr
      exact Dayd.of ⟨ret_int (by rw [HE.out]), ⟨nr, hnr, hmr⟩, HOW.out.trans HONr.out (fun _ _ h => h)⟩
end Go.Proofs.YthbfjkdklnffjaaDoor
