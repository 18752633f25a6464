/- Package cal: what was asked already; the walk of named. -/
import Derived.Test.YthbfjkdklnffjaaDoorCeB
namespace Go.Proofs.YthbfjkdklnffjaaDoor
open Go.ChangeShapes Go.WideShapes Go.ChangeAt Go.RowKit Go.DsMem Go.DsMk
set_option linter.unusedVariables false

theorem mo_eq {M N : Mo} (hM : M.ok) (hN : N.ok) (h : M.f = N.f) : M = N := by
  obtain ⟨y, m, f, s⟩ := M
  obtain ⟨y', m', f', s'⟩ := N
  obtain ⟨v1, hf, hs⟩ := hM
  obtain ⟨v2, hf', hs'⟩ := hN
  simp only at h v1 v2 hf hs hf' hs'
  subst hf hs hf' hs'
  obtain ⟨rfl, rfl, _⟩ := DsCal.num_inj v1 v2 h
  rfl

/-- the map in block B, of at most n entries, tells the days of calendars in months -/
def Memo (cs : List (ByteArray × Nd)) (w : World) (B n : Nat) : Prop :=
  ∃ D : DataW Unit, w.ownsMap Tryd.prog 91 (plainElem Tryd.prog 69) B n D ∧ Maps.IsMap D ∧
    ∀ (c : Nat) (hc : c < cs.length) (M : Mo) (kl : Lit), M.ok → keyOf Tryd.prog 91 (askV c M.f) = some kl → Maps.has D kl = true → ∃ k, okD cs k cs[c].2 ∧ D.atKey kl (.lit (.int .u32 0)) = .lit (.int .u32 (daysF cs M k cs[c].2))
theorem Memo.same {cs : List (ByteArray × Nd)} {w w' : World} {B n : Nat} (h : Memo cs w B n) (hb : w'.heap[B]? = w.heap[B]?) : Memo cs w' B n := by
  obtain ⟨D, ⟨es, clock, h1, h2⟩, h3⟩ := h
  exact ⟨D, ⟨es, clock, by rw [hb]; exact h1, h2⟩, h3⟩
theorem Memo.lt {cs : List (ByteArray × Nd)} {w : World} {B n : Nat} (h : Memo cs w B n) : B < w.heap.size := by
  obtain ⟨D, ⟨es, clock, h1, h2⟩, h3⟩ := h
  exact block_lt h1
theorem Memo.below {cs : List (ByteArray × Nd)} {w w' : World} {B n : Nat} (h : Memo cs w B n) (hb : Below w.heap.size w w') : Memo cs w' B n := h.same (hb.block B h.lt)
theorem Memo.mono {cs : List (ByteArray × Nd)} {w : World} {B n n' : Nat} (h : Memo cs w B n) (hn : n ≤ n') : Memo cs w B n' := by
  obtain ⟨D, h1, h3⟩ := h
  exact ⟨D, h1.mono hn, h3⟩

theorem askV_inj {c c' : Nat} {f f' : Int} (h : askV c f = askV c' f') : c = c' ∧ f = f' := by
  unfold askV at h
  simp at h
  exact ⟨by omega, h.2⟩
/-- what a call that asks does -/
def Dayd (cs : List (ByteArray × Nd)) (w : World) (B n : Nat) (r : Nat) (e : Ending) (w' : World) : Prop := e = .returned (.int .u32 r) ∧ (∃ n', n' ≤ n ∧ Memo cs w' B n') ∧ Only (· = B) w w'
theorem Dayd.of {cs : List (ByteArray × Nd)} {w w' : World} {B n r : Nat} {e : Ending} (h : e = .returned (.int .u32 r) ∧ (∃ n', n' ≤ n ∧ Memo cs w' B n') ∧ Only (· = B) w w') : Dayd cs w B n r e w' := h
def askrV (co : Option Addr) (cl cc B : Nat) : Value := .agg #[.slice co cl cc, .map (some B)]
/-- days are asked, at most k nodes on -/
def DaysOk (k : Nat) : Prop := ∀ (t : Nd) (v : NVal) (M : Mo) (n : Nat) (W w : World) (B : Nat) (co : Option Addr) (cc : Nat) (cs : List (ByteArray × Nd)) (g o : Nat) (V : Nat → NVal),
  Gc W w → W.heap.size ≤ B → NdAt W v t → CalsAt W co cc cs g o V → cs.length ≤ 24 → Memo cs w B n → M.ok → okD cs k t → n + costF cs k t ≤ 100000 →
  Calls Tryd.prog 27 #[askrV co cs.length cc B, v.val, M.val] w (Dayd cs w B (n + costF cs k t) (daysF cs M k t))
theorem daysF_lt (cs : List (ByteArray × Nd)) (M : Mo) : ∀ (k : Nat) (t : Nd), daysF cs M k t < 2147483648
  | 0, _ => by simp [daysF]
  | k + 1, .mk op ns kids nm => by
    have hh : ∀ o : Option Nd, o.elim 0 (daysF cs M k) < 2147483648 := fun o => by cases o with
      | none => show (0 : Nat) < 2147483648; decide
      | some t => exact daysF_lt cs M k t
    unfold daysF
    repeat' split
    · exact weekN_lt _ _ _
    · exact theseN_lt _ _ _
    · exact daysN_lt _ _
    · exact theseN_lt _ _ _
    · exact daysN_lt _ _
    · exact fiY_lt _ _ _ _ _ _
    · exact foldl_keep (fun a b : Nat => a < 2147483648 → b < 2147483648) (fun _ h => h) (fun _ _ _ h1 h2 h => h2 (h1 h)) _ _ (fun a c _ ha => Nat.lt_of_le_of_lt Nat.and_le_left ha) _ (hh _)
    · exact foldl_keep (fun a b : Nat => a < 2147483648 → b < 2147483648) (fun _ h => h) (fun _ _ _ h1 h2 h => h2 (h1 h)) _ _ (fun a c _ ha => Nat.or_lt_two_pow (n := 31) ha (daysF_lt cs M k c)) _ (hh _)
    · exact difN_lt31 _ _ (allN_lt _)
    · exact hh _
    · decide
/-- a calendar's days, laid into the map -/
theorem Memo.put {cs : List (ByteArray × Nd)} {w w' : World} {B n c : Nat} {M : Mo} {kl : Lit} {D : DataW Unit} {k : Nat} (hc : c < cs.length) (hM : M.ok) (hkl : keyOf Tryd.prog 91 (askV c M.f) = some kl) (hk : okD cs k cs[c].2)
    (hD : Maps.IsMap D) (hold : ∀ (c : Nat) (hc : c < cs.length) (M : Mo) (kl : Lit), M.ok → keyOf Tryd.prog 91 (askV c M.f) = some kl → Maps.has D kl = true → ∃ k, okD cs k cs[c].2 ∧ D.atKey kl (.lit (.int .u32 0)) = .lit (.int .u32 (daysF cs M k cs[c].2)))
    (hown : w'.ownsMap Tryd.prog 91 (plainElem Tryd.prog 69) B (n + 1) (D.put kl (.lit (.int .u32 (daysF cs M k cs[c].2))))) : Memo cs w' B (n + 1) := by
  refine ⟨_, hown, ?_, fun c' hc' M' kl' hM' hkl' hh => ?_⟩
  · obtain ⟨es, rfl⟩ := hD; exact ⟨_, rfl⟩
  · by_cases e : kl' = kl
    · subst e
      obtain ⟨rfl, hf⟩ := askV_inj (askedLaw.inj hkl' hkl)
      obtain rfl := mo_eq hM' hM hf
      exact ⟨k, hk, Maps.atKey_put_same hD (askedLaw.key hkl) _ _⟩
    · rw [Maps.has_put_other e] at hh
      obtain ⟨k', h1, h2⟩ := hold c' hc' M' kl' hM' hkl' hh
      exact ⟨k', h1, by rw [Maps.atKey_put_other e]; exact h2⟩
end Go.Proofs.YthbfjkdklnffjaaDoor
