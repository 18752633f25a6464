/- Package cal: the walk of days, of operations that go to no other node (written by gen_cee.py). -/
import Derived.Test.YthbfjkdklnffjaaDoorCeD
namespace Go.Proofs.YthbfjkdklnffjaaDoor
open Go.ChangeShapes Go.WideShapes Go.ChangeAt Go.RowKit Go.DsMem Go.DsMk
set_option linter.unusedVariables false

/-- the boxes of days: the asker in p, the node in p + 1, the month in p + 2 -/
structure Bxs (w : World) (p : Nat) (co : Option Addr) (cl cc B : Nat) (op : Int) (no : Option Addr) (nl nc : Nat) (ko : Option Addr) (kl kc : Nat) (nm : ByteArray) (M : Mo) : Prop where
  a0 : w.cell? ⟨p, 0, none⟩ = some (.slice co cl cc)
  a1 : w.cell? ⟨p, 1, none⟩ = some (.map (some B))
  n0 : w.cell? ⟨p + 1, 0, none⟩ = some (.int .i64 op)
  n1 : w.cell? ⟨p + 1, 1, none⟩ = some (.slice no nl nc)
  n2 : w.cell? ⟨p + 1, 2, none⟩ = some (.slice ko kl kc)
  n3 : w.cell? ⟨p + 1, 3, none⟩ = some (.string nm)
  m0 : w.cell? ⟨p + 2, 0, none⟩ = some (.int .i64 M.y)
  m1 : w.cell? ⟨p + 2, 1, none⟩ = some (.int .i64 M.m)
  m2 : w.cell? ⟨p + 2, 2, none⟩ = some (.int .i64 M.f)
  m3 : w.cell? ⟨p + 2, 3, none⟩ = some (.int .i64 M.s)
theorem Bxs.mono {w w' : World} {p : Nat} {co : Option Addr} {cl cc B : Nat} {op : Int} {no : Option Addr} {nl nc : Nat} {ko : Option Addr} {kl kc : Nat} {nm : ByteArray} {M : Mo} (h : Bxs w p co cl cc B op no nl nc ko kl kc nm M)
    (hc : ∀ b i v, p ≤ b → w.cell? ⟨b, i, none⟩ = some v → w'.cell? ⟨b, i, none⟩ = some v) : Bxs w' p co cl cc B op no nl nc ko kl kc nm M :=
  ⟨hc _ _ _ (by omega) h.a0, hc _ _ _ (by omega) h.a1, hc _ _ _ (by omega) h.n0, hc _ _ _ (by omega) h.n1, hc _ _ _ (by omega) h.n2, hc _ _ _ (by omega) h.n3, hc _ _ _ (by omega) h.m0, hc _ _ _ (by omega) h.m1, hc _ _ _ (by omega) h.m2, hc _ _ _ (by omega) h.m3⟩
theorem Bxs.below {w w' : World} {p : Nat} {co : Option Addr} {cl cc B : Nat} {op : Int} {no : Option Addr} {nl nc : Nat} {ko : Option Addr} {kl kc : Nat} {nm : ByteArray} {M : Mo} (h : Bxs w p co cl cc B op no nl nc ko kl kc nm M) (hb : Below w.heap.size w w') : Bxs w' p co cl cc B op no nl nc ko kl kc nm M :=
  h.mono fun _ _ _ _ hc => Below.keeps hb (Nat.le_refl _) hc
theorem Bxs.only {w w' : World} {p : Nat} {co : Option Addr} {cl cc B : Nat} {op : Int} {no : Option Addr} {nl nc : Nat} {ko : Option Addr} {kl kc : Nat} {nm : ByteArray} {M : Mo} (h : Bxs w p co cl cc B op no nl nc ko kl kc nm M) (hb : Only (· = B) w w') (hB : B < p) : Bxs w' p co cl cc B op no nl nc ko kl kc nm M :=
  h.mono fun b _ _ hp hc => hb.cell hc (by show ¬ b = B; omega)
theorem Bxs.new (w : World) (co : Option Addr) (cl cc B : Nat) (op : Int) (no : Option Addr) (nl nc : Nat) (ko : Option Addr) (kl kc : Nat) (nm : ByteArray) (M : Mo) :
    Bxs (((w.alloc (.cells #[.slice co cl cc, .map (some B)] 53)).alloc (.cells #[.int .i64 op, .slice no nl nc, .slice ko kl kc, .string nm] 31)).alloc (.cells #[.int .i64 M.y, .int .i64 M.m, .int .i64 M.f, .int .i64 M.s] 67)) w.heap.size co cl cc B op no nl nc ko kl kc nm M := by
  obtain ⟨w1, h1⟩ : ∃ w1, w1 = w.alloc (.cells #[.slice co cl cc, .map (some B)] 53) := ⟨_, rfl⟩
  have z1 : w1.heap.size = w.heap.size + 1 := by rw [h1]; simp
  have e1 : w1.heap[w.heap.size]? = some (.cells #[.slice co cl cc, .map (some B)] 53 (0, 0)) := by rw [h1]; exact heap_alloc_new w _
  rw [← h1]
  obtain ⟨w2, h2⟩ : ∃ w2, w2 = w1.alloc (.cells #[.int .i64 op, .slice no nl nc, .slice ko kl kc, .string nm] 31) := ⟨_, rfl⟩
  have z2 : w2.heap.size = w.heap.size + 2 := by rw [h2]; simp [z1]
  have e2 : w2.heap[w.heap.size + 1]? = some (.cells #[.int .i64 op, .slice no nl nc, .slice ko kl kc, .string nm] 31 (0, 0)) := by rw [← z1, h2]; exact heap_alloc_new w1 _
  have e1' : w2.heap[w.heap.size]? = some (.cells #[.slice co cl cc, .map (some B)] 53 (0, 0)) := by rw [h2]; exact heap_keep e1
  rw [← h2]
  have e3 := heap_alloc_new w2 (.cells #[.int .i64 M.y, .int .i64 M.m, .int .i64 M.f, .int .i64 M.s] 67)
  rw [z2] at e3
  have f1 := heap_keep (o := .cells #[.int .i64 M.y, .int .i64 M.m, .int .i64 M.f, .int .i64 M.s] 67) e1'
  have f2 := heap_keep (o := .cells #[.int .i64 M.y, .int .i64 M.m, .int .i64 M.f, .int .i64 M.s] 67) e2
  exact ⟨by rw [cell_of f1]; rfl, by rw [cell_of f1]; rfl, by rw [cell_of f2]; rfl, by rw [cell_of f2]; rfl, by rw [cell_of f2]; rfl, by rw [cell_of f2]; rfl, by rw [cell_of e3]; rfl, by rw [cell_of e3]; rfl, by rw [cell_of e3]; rfl, by rw [cell_of e3]; rfl⟩

theorem rd1 {w : World} {a : Addr} {x : Int} {n c : Nat} (h : RdI w (.slice (some a) n c) [x]) : w.cell? a = some (.int .i64 x) := by
  obtain ⟨ao, cap, hv, _, _, hr⟩ := h
  simp only [Value.slice.injEq] at hv
  obtain ⟨rfl, _, _⟩ := hv
  have := hr a rfl 0 x rfl
  have ad0 : a.add 0 = a := by cases a; simp [Addr.add]
  rwa [ad0] at this
theorem rd2 {w : World} {a : Addr} {x y : Int} {n c : Nat} (h : RdI w (.slice (some a) n c) [x, y]) : w.cell? a = some (.int .i64 x) ∧ w.cell? (a.add 1) = some (.int .i64 y) := by
  obtain ⟨ao, cap, hv, _, _, hr⟩ := h
  simp only [Value.slice.injEq] at hv
  obtain ⟨rfl, _, _⟩ := hv
  have := hr a rfl 0 x rfl
  have ad0 : a.add 0 = a := by cases a; simp [Addr.add]
  rw [ad0] at this
  exact ⟨this, hr a rfl 1 y rfl⟩

set_option maxHeartbeats 8000000 in
set_option maxRecDepth 20000 in
theorem Gc.days2 {W w : World} (h : Gc W w) (co : Option Addr) (cl cc B : Nat) (ns : List Int) (no : Option Addr) (nc : Nat) (ko : Option Addr) (kl kc : Nat) (nm : ByteArray) (M : Mo) (hM : M.ok) (hr : RdI w (.slice no ns.length nc) ns) (hl : ns.length ≤ 64) (hk : ∀ k ∈ ns, 1 ≤ k ∧ k ≤ 3652059) :
    Calls Tryd.prog 27 #[askrV co cl cc B, ndV 2 no ns.length nc ko kl kc nm, M.val] w fun e w' => e = .returned (.int .u32 (theseN M.f M.s ns)) ∧ Gc W w' := by
  obtain ⟨b1, b2, b3, b4, b5, b6, b7, b8⟩ := isMo_bd hM
  have HG := hide h
  have HR := hide hr
  have HMO := hide hM
  clear h hr hM
  unfold askrV ndV Mo.val moV
  go_enter Tryd.func27, Tryd.ntmps27
  go_wp2_with fail
  obtain ⟨wA, hwA⟩ : ∃ wA, wA = ((w.alloc (.cells #[.slice co cl cc, .map (some B)] 53)).alloc (.cells #[.int .i64 2, .slice no ns.length nc, .slice ko kl kc, .string nm] 31)).alloc (.cells #[.int .i64 M.y, .int .i64 M.m, .int .i64 M.f, .int .i64 M.s] 67) := ⟨_, rfl⟩
  have HBX : Hid (Bxs wA w.heap.size co cl cc B 2 no ns.length nc ko kl kc nm M) := by rw [hwA]; exact Bxs.new _ _ _ _ _ _ _ _ _ _ _ _ _ _
  have HGA : Hid (Gc W wA) := by rw [hwA]; exact ((HG.out.alloc _).alloc _).alloc _
  have HRA : Hid (RdI wA (.slice no ns.length nc) ns) := by rw [hwA]; exact HR.out.below ((((Below.refl _ _).alloc (Nat.le_refl _) _).alloc (by simp) _).alloc (by simp; omega) _)
  rw [← hwA]
  clear hwA
  generalize w.heap.size = p at *
  obtain ⟨a0, a1, n0, n1, n2, n3, m0, m1, m2, m3⟩ := HBX.out
  refine (Gc.these (W := wA) HGA.out.here M.y M.m M.f M.s ns _ HRA.out (by omega) (fun k hk' => by have := hk k hk'; omega) b5 b6 (by omega) b8).mono ?_
  rintro e w2 ⟨rfl, hg⟩
  have HG2 := hide hg
  clear hg
  go_wp2
  go_ret
  exact ⟨rfl, HGA.out.more HG2.out.below⟩

set_option maxHeartbeats 8000000 in
set_option maxRecDepth 20000 in
theorem Gc.days3 {W w : World} (h : Gc W w) (co : Option Addr) (cl cc B : Nat) (ns : List Int) (no : Option Addr) (nc : Nat) (ko : Option Addr) (kl kc : Nat) (nm : ByteArray) (M : Mo) (hM : M.ok) (hr : RdI w (.slice no ns.length nc) ns) (hl : ns.length ≤ 64) (hk : ∀ k ∈ ns, -31 ≤ k ∧ k ≤ 31) :
    Calls Tryd.prog 27 #[askrV co cl cc B, ndV 3 no ns.length nc ko kl kc nm, M.val] w fun e w' => e = .returned (.int .u32 (daysN M.s ns)) ∧ Gc W w' := by
  obtain ⟨b1, b2, b3, b4, b5, b6, b7, b8⟩ := isMo_bd hM
  have HG := hide h
  have HR := hide hr
  have HMO := hide hM
  clear h hr hM
  unfold askrV ndV Mo.val moV
  go_enter Tryd.func27, Tryd.ntmps27
  go_wp2_with fail
  obtain ⟨wA, hwA⟩ : ∃ wA, wA = ((w.alloc (.cells #[.slice co cl cc, .map (some B)] 53)).alloc (.cells #[.int .i64 3, .slice no ns.length nc, .slice ko kl kc, .string nm] 31)).alloc (.cells #[.int .i64 M.y, .int .i64 M.m, .int .i64 M.f, .int .i64 M.s] 67) := ⟨_, rfl⟩
  have HBX : Hid (Bxs wA w.heap.size co cl cc B 3 no ns.length nc ko kl kc nm M) := by rw [hwA]; exact Bxs.new _ _ _ _ _ _ _ _ _ _ _ _ _ _
  have HGA : Hid (Gc W wA) := by rw [hwA]; exact ((HG.out.alloc _).alloc _).alloc _
  have HRA : Hid (RdI wA (.slice no ns.length nc) ns) := by rw [hwA]; exact HR.out.below ((((Below.refl _ _).alloc (Nat.le_refl _) _).alloc (by simp) _).alloc (by simp; omega) _)
  rw [← hwA]
  clear hwA
  generalize w.heap.size = p at *
  obtain ⟨a0, a1, n0, n1, n2, n3, m0, m1, m2, m3⟩ := HBX.out
  refine (days_any ns M.s _ _ HRA.out (by omega) (by omega) (by omega) (fun k hk' => by have := hk k hk'; omega)).mono ?_
  rintro e w2 ⟨rfl, rfl⟩
  go_wp2
  go_ret
  exact ⟨rfl, HGA.out⟩

set_option maxHeartbeats 8000000 in
set_option maxRecDepth 20000 in
theorem Gc.days1 {W w : World} (h : Gc W w) (co : Option Addr) (cl cc B : Nat) (x : Nat) (no : Option Addr) (nc : Nat) (ko : Option Addr) (kl kc : Nat) (nm : ByteArray) (M : Mo) (hM : M.ok) (hr : RdI w (.slice no 1 nc) [(x : Int)]) (hx : x < 128) :
    Calls Tryd.prog 27 #[askrV co cl cc B, ndV 1 no 1 nc ko kl kc nm, M.val] w fun e w' => e = .returned (.int .u32 (weekN x ((M.f - 1) % 7) M.s)) ∧ Gc W w' := by
  obtain ⟨b1, b2, b3, b4, b5, b6, b7, b8⟩ := isMo_bd hM
  have HG := hide h
  have HR := hide hr
  have HMO := hide hM
  clear h hr hM
  unfold askrV ndV Mo.val moV
  go_enter Tryd.func27, Tryd.ntmps27
  go_wp2
  obtain ⟨wA, hwA⟩ : ∃ wA, wA = ((w.alloc (.cells #[.slice co cl cc, .map (some B)] 53)).alloc (.cells #[.int .i64 1, .slice no 1 nc, .slice ko kl kc, .string nm] 31)).alloc (.cells #[.int .i64 M.y, .int .i64 M.m, .int .i64 M.f, .int .i64 M.s] 67) := ⟨_, rfl⟩
  have HBX : Hid (Bxs wA w.heap.size co cl cc B 1 no 1 nc ko kl kc nm M) := by rw [hwA]; exact Bxs.new _ _ _ _ _ _ _ _ _ _ _ _ _ _
  have HGA : Hid (Gc W wA) := by rw [hwA]; exact ((HG.out.alloc _).alloc _).alloc _
  have HRA : Hid (RdI wA (.slice no 1 nc) [(x : Int)]) := by rw [hwA]; exact HR.out.below ((((Below.refl _ _).alloc (Nat.le_refl _) _).alloc (by simp) _).alloc (by simp; omega) _)
  rw [← hwA]
  clear hwA
  generalize w.heap.size = p at *
  obtain ⟨a0, a1, n0, n1, n2, n3, m0, m1, m2, m3⟩ := HBX.out
  have hg0 : Gc wA wA.drew := HGA.out.here.drew
  obtain ⟨xa, rfl⟩ : ∃ a, no = some a := by
    obtain ⟨ao, cap, hv, _, hnil, _⟩ := HRA.out
    cases no with
    | none => simp at hv; obtain ⟨rfl, hl, _⟩ := hv; have := hnil rfl; simp at this
    | some a => exact ⟨a, rfl⟩
  obtain ⟨xc0, -⟩ := (fun h => And.intro (rd1 h) trivial : _ → _ ∧ True) HRA.out
  obtain ⟨xg, xo, xs⟩ := xa
  have hpl := plain_addr xc0
  simp only [Addr.mk.injEq, true_and] at hpl
  subst hpl
  have KP : Hid (∀ w', Gc wA w' → w'.cell? ⟨p + 1, 1, none⟩ = some (.slice (some ⟨xg, xo, none⟩) 1 nc) ∧ w'.cell? ⟨p + 2, 0, none⟩ = some (.int .i64 M.y) ∧ w'.cell? ⟨p + 2, 1, none⟩ = some (.int .i64 M.m) ∧ w'.cell? ⟨p + 2, 2, none⟩ = some (.int .i64 M.f) ∧ w'.cell? ⟨p + 2, 3, none⟩ = some (.int .i64 M.s) ∧ w'.cell? ⟨xg, xo, none⟩ = some (.int .i64 x)) := fun w' hw => by
    have hx := HBX.out.below hw.below
    exact ⟨hx.n1, hx.m0, hx.m1, hx.m2, hx.m3, Below.keeps hw.below (Nat.le_refl _) xc0⟩
  first
    | (go_region_held3 (fun w' => w'.cell? ⟨p + 1, 1, none⟩ = some (.slice (some ⟨xg, xo, none⟩) 1 nc) ∧ w'.cell? ⟨p + 2, 0, none⟩ = some (.int .i64 M.y) ∧ w'.cell? ⟨p + 2, 1, none⟩ = some (.int .i64 M.m) ∧ w'.cell? ⟨p + 2, 2, none⟩ = some (.int .i64 M.f) ∧ w'.cell? ⟨p + 2, 3, none⟩ = some (.int .i64 M.s) ∧ w'.cell? ⟨xg, xo, none⟩ = some (.int .i64 x)) (first | go_keep | (exact KP.out _ (by assumption))) ((go_at_call 35; refine (Gc.weekdays (W := wA) (by assumption) M.y M.m M.f M.s x hx b5 b6).mono ?_; rintro e w2 ⟨rfl, hg⟩)))
    | fail
  have HG2 := hide hg
  clear hg
  go_wp2
  go_ret
  exact ⟨rfl, HGA.out.more HG2.out.below⟩

set_option maxHeartbeats 8000000 in
set_option maxRecDepth 20000 in
theorem Gc.days4 {W w : World} (h : Gc W w) (co : Option Addr) (cl cc B : Nat) (x y : Int) (no : Option Addr) (nc : Nat) (ko : Option Addr) (kl kc : Nat) (nm : ByteArray) (M : Mo) (hM : M.ok) (hr : RdI w (.slice no 2 nc) [x, y]) (ha : DsCal.okA x y) :
    Calls Tryd.prog 27 #[askrV co cl cc B, ndV 4 no 2 nc ko kl kc nm, M.val] w fun e w' => e = .returned (.int .u32 (theseN M.f M.s [(DsCal.nres M.f M.s x y).1])) ∧ Gc W w' := by
  obtain ⟨b1, b2, b3, b4, b5, b6, b7, b8⟩ := isMo_bd hM
  have HG := hide h
  have HR := hide hr
  have HMO := hide hM
  clear h hr hM
  unfold askrV ndV Mo.val moV
  go_enter Tryd.func27, Tryd.ntmps27
  go_wp2
  obtain ⟨wA, hwA⟩ : ∃ wA, wA = ((w.alloc (.cells #[.slice co cl cc, .map (some B)] 53)).alloc (.cells #[.int .i64 4, .slice no 2 nc, .slice ko kl kc, .string nm] 31)).alloc (.cells #[.int .i64 M.y, .int .i64 M.m, .int .i64 M.f, .int .i64 M.s] 67) := ⟨_, rfl⟩
  have HBX : Hid (Bxs wA w.heap.size co cl cc B 4 no 2 nc ko kl kc nm M) := by rw [hwA]; exact Bxs.new _ _ _ _ _ _ _ _ _ _ _ _ _ _
  have HGA : Hid (Gc W wA) := by rw [hwA]; exact ((HG.out.alloc _).alloc _).alloc _
  have HRA : Hid (RdI wA (.slice no 2 nc) [x, y]) := by rw [hwA]; exact HR.out.below ((((Below.refl _ _).alloc (Nat.le_refl _) _).alloc (by simp) _).alloc (by simp; omega) _)
  rw [← hwA]
  clear hwA
  generalize w.heap.size = p at *
  obtain ⟨a0, a1, n0, n1, n2, n3, m0, m1, m2, m3⟩ := HBX.out
  have hg0 : Gc wA wA.drew := HGA.out.here.drew
  obtain ⟨xa, rfl⟩ : ∃ a, no = some a := by
    obtain ⟨ao, cap, hv, _, hnil, _⟩ := HRA.out
    cases no with
    | none => simp at hv; obtain ⟨rfl, hl, _⟩ := hv; have := hnil rfl; simp at this
    | some a => exact ⟨a, rfl⟩
  obtain ⟨xc0, xc1⟩ := rd2 HRA.out
  obtain ⟨xg, xo, xs⟩ := xa
  have hpl := plain_addr xc0
  simp only [Addr.mk.injEq, true_and] at hpl
  subst hpl
  rw [add_mk] at xc1
  have KP : Hid (∀ w', Gc wA w' → w'.cell? ⟨p + 1, 1, none⟩ = some (.slice (some ⟨xg, xo, none⟩) 2 nc) ∧ w'.cell? ⟨p + 2, 0, none⟩ = some (.int .i64 M.y) ∧ w'.cell? ⟨p + 2, 1, none⟩ = some (.int .i64 M.m) ∧ w'.cell? ⟨p + 2, 2, none⟩ = some (.int .i64 M.f) ∧ w'.cell? ⟨p + 2, 3, none⟩ = some (.int .i64 M.s) ∧ w'.cell? ⟨xg, xo, none⟩ = some (.int .i64 x) ∧ w'.cell? ⟨xg, xo + 1, none⟩ = some (.int .i64 y)) := fun w' hw => by
    have hx := HBX.out.below hw.below
    exact ⟨hx.n1, hx.m0, hx.m1, hx.m2, hx.m3, Below.keeps hw.below (Nat.le_refl _) xc0, Below.keeps hw.below (Nat.le_refl _) xc1⟩
  first
    | (go_region_held3 (fun w' => w'.cell? ⟨p + 1, 1, none⟩ = some (.slice (some ⟨xg, xo, none⟩) 2 nc) ∧ w'.cell? ⟨p + 2, 0, none⟩ = some (.int .i64 M.y) ∧ w'.cell? ⟨p + 2, 1, none⟩ = some (.int .i64 M.m) ∧ w'.cell? ⟨p + 2, 2, none⟩ = some (.int .i64 M.f) ∧ w'.cell? ⟨p + 2, 3, none⟩ = some (.int .i64 M.s) ∧ w'.cell? ⟨xg, xo, none⟩ = some (.int .i64 x) ∧ w'.cell? ⟨xg, xo + 1, none⟩ = some (.int .i64 y)) (first | go_keep | (exact KP.out _ (by assumption))) ((go_at_call 38; refine (Gc.nthDays (W := wA) (by assumption) M.y M.m M.f M.s x y HMO.out ha).mono ?_; rintro e w2 ⟨rfl, hg⟩)))
    | fail
  have HG2 := hide hg
  clear hg
  go_wp2
  go_ret
  exact ⟨rfl, HGA.out.more HG2.out.below⟩

set_option maxHeartbeats 8000000 in
set_option maxRecDepth 20000 in
theorem Gc.days6 {W w : World} (h : Gc W w) (co : Option Addr) (cl cc B : Nat) (x y : Int) (no : Option Addr) (nc : Nat) (ko : Option Addr) (kl kc : Nat) (nm : ByteArray) (M : Mo) (hM : M.ok) (hr : RdI w (.slice no 2 nc) [x, y]) (ha : okP x) (hb1 : 1 ≤ y) (hb2 : y ≤ 12) :
    Calls Tryd.prog 27 #[askrV co cl cc B, ndV 6 no 2 nc ko kl kc nm, M.val] w fun e w' => e = .returned (.int .u32 (fisN M.y M.f M.s x y)) ∧ Gc W w' := by
  obtain ⟨b1, b2, b3, b4, b5, b6, b7, b8⟩ := isMo_bd hM
  have HG := hide h
  have HR := hide hr
  have HMO := hide hM
  clear h hr hM
  unfold askrV ndV Mo.val moV
  go_enter Tryd.func27, Tryd.ntmps27
  go_wp2
  obtain ⟨wA, hwA⟩ : ∃ wA, wA = ((w.alloc (.cells #[.slice co cl cc, .map (some B)] 53)).alloc (.cells #[.int .i64 6, .slice no 2 nc, .slice ko kl kc, .string nm] 31)).alloc (.cells #[.int .i64 M.y, .int .i64 M.m, .int .i64 M.f, .int .i64 M.s] 67) := ⟨_, rfl⟩
  have HBX : Hid (Bxs wA w.heap.size co cl cc B 6 no 2 nc ko kl kc nm M) := by rw [hwA]; exact Bxs.new _ _ _ _ _ _ _ _ _ _ _ _ _ _
  have HGA : Hid (Gc W wA) := by rw [hwA]; exact ((HG.out.alloc _).alloc _).alloc _
  have HRA : Hid (RdI wA (.slice no 2 nc) [x, y]) := by rw [hwA]; exact HR.out.below ((((Below.refl _ _).alloc (Nat.le_refl _) _).alloc (by simp) _).alloc (by simp; omega) _)
  rw [← hwA]
  clear hwA
  generalize w.heap.size = p at *
  obtain ⟨a0, a1, n0, n1, n2, n3, m0, m1, m2, m3⟩ := HBX.out
  have hg0 : Gc wA wA.drew := HGA.out.here.drew
  obtain ⟨xa, rfl⟩ : ∃ a, no = some a := by
    obtain ⟨ao, cap, hv, _, hnil, _⟩ := HRA.out
    cases no with
    | none => simp at hv; obtain ⟨rfl, hl, _⟩ := hv; have := hnil rfl; simp at this
    | some a => exact ⟨a, rfl⟩
  obtain ⟨xc0, xc1⟩ := rd2 HRA.out
  obtain ⟨xg, xo, xs⟩ := xa
  have hpl := plain_addr xc0
  simp only [Addr.mk.injEq, true_and] at hpl
  subst hpl
  rw [add_mk] at xc1
  have KP : Hid (∀ w', Gc wA w' → w'.cell? ⟨p + 1, 1, none⟩ = some (.slice (some ⟨xg, xo, none⟩) 2 nc) ∧ w'.cell? ⟨p + 2, 0, none⟩ = some (.int .i64 M.y) ∧ w'.cell? ⟨p + 2, 1, none⟩ = some (.int .i64 M.m) ∧ w'.cell? ⟨p + 2, 2, none⟩ = some (.int .i64 M.f) ∧ w'.cell? ⟨p + 2, 3, none⟩ = some (.int .i64 M.s) ∧ w'.cell? ⟨xg, xo, none⟩ = some (.int .i64 x) ∧ w'.cell? ⟨xg, xo + 1, none⟩ = some (.int .i64 y)) := fun w' hw => by
    have hx := HBX.out.below hw.below
    exact ⟨hx.n1, hx.m0, hx.m1, hx.m2, hx.m3, Below.keeps hw.below (Nat.le_refl _) xc0, Below.keeps hw.below (Nat.le_refl _) xc1⟩
  first
    | (go_region_held3 (fun w' => w'.cell? ⟨p + 1, 1, none⟩ = some (.slice (some ⟨xg, xo, none⟩) 2 nc) ∧ w'.cell? ⟨p + 2, 0, none⟩ = some (.int .i64 M.y) ∧ w'.cell? ⟨p + 2, 1, none⟩ = some (.int .i64 M.m) ∧ w'.cell? ⟨p + 2, 2, none⟩ = some (.int .i64 M.f) ∧ w'.cell? ⟨p + 2, 3, none⟩ = some (.int .i64 M.s) ∧ w'.cell? ⟨xg, xo, none⟩ = some (.int .i64 x) ∧ w'.cell? ⟨xg, xo + 1, none⟩ = some (.int .i64 y)) (first | go_keep | (exact KP.out _ (by assumption))) ((go_at_call 41; refine (Gc.fiscal (W := wA) (by assumption) M.y M.m M.f M.s x y HMO.out ha hb1 hb2).mono ?_; rintro e w2 ⟨rfl, hg⟩)))
    | fail
  have HG2 := hide hg
  clear hg
  go_wp2
  go_ret
  exact ⟨rfl, HGA.out.more HG2.out.below⟩
end Go.Proofs.YthbfjkdklnffjaaDoor
