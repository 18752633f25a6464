/- What the document says of a disk, as plain functions: files, their bytes, how many are safe, which call fails. No program in sight. -/
import Derived.Below
namespace Go.DsDk

/-- a file's number -/
def okf (f : Int) : Bool := decide (0 ≤ f ∧ f < 8)
theorem okf_yes {f : Int} (h0 : 0 ≤ f) (h1 : f < 8) : okf f = true := by simp [okf, h0, h1]
theorem okf_bd {f : Int} (h : okf f = true) : 0 ≤ f ∧ f < 8 := by simpa [okf] using h
theorem all_take {ns : List Int} {k : Nat} (h : (ns.take k).all okf = true) (hk : k < ns.length) (hf : okf ns[k] = true) : (ns.take (k + 1)).all okf = true := by
  rw [List.take_succ_eq_append_getElem hk, List.all_append, h]; simp [hf]
theorem all_no {ns : List Int} {k : Nat} (hk : k < ns.length) (hf : okf ns[k] = false) : ns.all okf = false := by
  rw [List.all_eq_false]; exact ⟨ns[k], List.getElem_mem hk, by simp [hf]⟩

/-- a function, another value at one place -/
def upd {α : Type} (g : Nat → α) (f : Nat) (x : α) : Nat → α := fun k => if k = f then x else g k
theorem upd_same {α : Type} (g : Nat → α) (f : Nat) (x : α) : upd g f x f = x := by simp [upd]
theorem upd_ne {α : Type} (g : Nat → α) {f k : Nat} (x : α) (h : k ≠ f) : upd g f x k = g k := by simp [upd, h]

/-- a disk: of each file its bytes and how many are safe; how many calls there are till one fails (0: none does); whether it is dead -/
structure Dk where
  b : Nat → List UInt8
  s : Nat → Nat
  left : Nat
  dead : Bool

def Dk.new : Dk := ⟨fun _ => [], fun _ => 0, 0, false⟩
/-- a call that may fail is counted -/
def Dk.called (D : Dk) : Dk := if D.left = 0 then D else { D with left := D.left - 1, dead := D.dead || decide (D.left = 1) }
def Dk.err (D : Dk) : Int := if D.left = 1 then 13 else 0
def Dk.start (D : Dk) (ok : Bool) : Dk × Int := if ok then (if D.dead then (D, 13) else (D.called, D.err)) else (D, 1)
def Dk.append (D : Dk) (f : Int) (b : List UInt8) : Dk × Int :=
  if okf f then (if D.dead then (D, 13) else if 1048576 < b.length + (D.b f.toNat).length then (D, 4) else
    (({ D with b := upd D.b f.toNat (D.b f.toNat ++ b) } : Dk).called, D.err)) else (D, 1)
def Dk.sync (D : Dk) (f : Int) : Dk × Int :=
  if (D.start (okf f)).2 = 0 then ({ (D.start (okf f)).1 with s := upd D.s f.toNat (D.b f.toNat).length }, 0) else D.start (okf f)
def Dk.clear (D : Dk) (f : Int) : Dk × Int :=
  if (D.start (okf f)).2 = 0 then ({ (D.start (okf f)).1 with b := upd D.b f.toNat [], s := upd D.s f.toNat 0 }, 0) else D.start (okf f)
def Dk.rename (D : Dk) (f g : Int) : Dk × Int :=
  if (D.start (okf f && okf g)).2 = 0 then
    (if f = g then D.start (okf f && okf g) else
      ({ (D.start (okf f && okf g)).1 with b := upd (upd D.b g.toNat (D.b f.toNat)) f.toNat [], s := upd (upd D.s g.toNat (D.s f.toNat)) f.toNat 0 }, 0))
  else D.start (okf f && okf g)
def Dk.read (D : Dk) (f : Int) : List UInt8 × Int := if okf f then (D.b f.toNat, 0) else ([], 1)
def Dk.safe (D : Dk) (f : Int) : Int := if okf f then (D.s f.toNat : Int) else 0
def Dk.fail (D : Dk) (n : Int) : Dk := { D with left := n.toNat }
/-- how many bytes that are not safe stay of a file -/
def stay (keep : List Int) (f : Nat) (behind : Nat) : Nat := Nat.min (keep.getD f 0).toNat behind
def Dk.kept (D : Dk) (keep : List Int) (f : Nat) : Nat := D.s f + stay keep f ((D.b f).length - D.s f)
def Dk.crash (D : Dk) (keep : List Int) : Dk :=
  ⟨fun f => (D.b f).take (D.kept keep f), fun f => D.kept keep f, 0, false⟩

theorem err_one {D : Dk} (h : D.left = 1) : D.err = 13 := by simp [Dk.err, h]
theorem err_no {D : Dk} (h : D.left ≠ 1) : D.err = 0 := by simp [Dk.err, h]
/-- what can be: no more bytes are safe than there are, no file is too long -/
def Dk.Ok (D : Dk) : Prop := ∀ f, f < 8 → D.s f ≤ (D.b f).length ∧ (D.b f).length ≤ 1048576
/-- the number of calls is one that an int can have -/
def Dk.Few (D : Dk) : Prop := D.left ≤ 9223372036854775807

theorem Dk.Ok.new : Dk.new.Ok := fun _ _ => ⟨Nat.le_refl _, by simp [Dk.new]⟩
theorem called_b (D : Dk) : D.called.b = D.b := by unfold Dk.called; split <;> rfl
theorem called_s (D : Dk) : D.called.s = D.s := by unfold Dk.called; split <;> rfl
theorem start_b (D : Dk) (ok : Bool) : (D.start ok).1.b = D.b := by unfold Dk.start; split; split; rfl; exact called_b D; rfl
theorem start_s (D : Dk) (ok : Bool) : (D.start ok).1.s = D.s := by unfold Dk.start; split; split; rfl; exact called_s D; rfl
theorem Dk.Ok.called {D : Dk} (h : D.Ok) : D.called.Ok := by unfold Dk.Ok; rw [called_b, called_s]; exact h
theorem Dk.Ok.start {D : Dk} (h : D.Ok) (ok : Bool) : (D.start ok).1.Ok := by unfold Dk.Ok; rw [start_b, start_s]; exact h
theorem Dk.Ok.append {D : Dk} (h : D.Ok) (f : Int) (b : List UInt8) : (D.append f b).1.Ok := by
  unfold Dk.append
  split
  · split
    · exact h
    · split
      · exact h
      · rename_i h1 h2 h3
        refine Dk.Ok.called (fun k hk => ?_)
        by_cases e : k = f.toNat
        · subst e; simp only [upd_same, List.length_append]; have := h _ hk; omega
        · simp only [upd_ne _ _ e]; exact h k hk
  · exact h
theorem Dk.Ok.sync {D : Dk} (h : D.Ok) (f : Int) : (D.sync f).1.Ok := by
  unfold Dk.sync
  split
  · intro k hk
    simp only [start_b]
    by_cases e : k = f.toNat
    · subst e; simp only [upd_same]; have := h _ hk; omega
    · simp only [upd_ne _ _ e]; exact h k hk
  · exact h.start _
theorem Dk.Ok.clear {D : Dk} (h : D.Ok) (f : Int) : (D.clear f).1.Ok := by
  unfold Dk.clear
  split
  · intro k hk
    by_cases e : k = f.toNat
    · subst e; simp only [upd_same]; simp
    · simp only [upd_ne _ _ e]; exact h k hk
  · exact h.start _
theorem Dk.Ok.rename {D : Dk} (h : D.Ok) (f g : Int) : (D.rename f g).1.Ok := by
  unfold Dk.rename
  split
  · rename_i h0
    split
    · exact h.start _
    · intro k hk
      have hb : okf f = true := by
        unfold Dk.start at h0; split at h0
        · rename_i hh; simp at hh; exact hh.1
        · simp at h0
      have := okf_bd hb
      by_cases e : k = f.toNat
      · subst e; simp only [upd_same]; simp
      · simp only [upd_ne _ _ e]
        by_cases e2 : k = g.toNat
        · subst e2; simp only [upd_same]; exact h f.toNat (by omega)
        · simp only [upd_ne _ _ e2]; exact h k hk
  · exact h.start _
theorem Dk.Ok.fail {D : Dk} (h : D.Ok) (n : Int) : (D.fail n).Ok := h
theorem stay_le (keep : List Int) (f n : Nat) : stay keep f n ≤ n := Nat.min_le_right _ _
theorem Dk.Ok.kept {D : Dk} (h : D.Ok) (keep : List Int) {f : Nat} (hf : f < 8) : D.kept keep f ≤ (D.b f).length := by
  unfold Dk.kept; have := h f hf; have := stay_le keep f ((D.b f).length - D.s f); omega
theorem Dk.Ok.crash {D : Dk} (h : D.Ok) (keep : List Int) : (D.crash keep).Ok := by
  intro f hf
  have h1 := h.kept keep hf
  have h2 := h f hf
  simp only [Dk.crash, List.length_take]
  omega
theorem start_ok {D : Dk} {ok : Bool} (h : (D.start ok).2 = 0) : ok = true := by
  unfold Dk.start at h; split at h
  · assumption
  · simp at h
theorem Dk.Few.new : Dk.new.Few := Nat.zero_le _
theorem Dk.Few.called {D : Dk} (h : D.Few) : D.called.Few := by
  unfold Dk.Few at h ⊢; unfold Dk.called; split
  · exact h
  · simp only; omega
theorem Dk.Few.start {D : Dk} (h : D.Few) (ok : Bool) : (D.start ok).1.Few := by
  unfold Dk.start; split; split; exact h; exact h.called; exact h
theorem Dk.Few.append {D : Dk} (h : D.Few) (f : Int) (b : List UInt8) : (D.append f b).1.Few := by
  unfold Dk.append
  split
  · split
    · exact h
    · split
      · exact h
      · exact Dk.Few.called (D := { D with b := upd D.b f.toNat (D.b f.toNat ++ b) }) h
  · exact h
theorem Dk.Few.sync {D : Dk} (h : D.Few) (f : Int) : (D.sync f).1.Few := by
  unfold Dk.sync; split; exact h.start _; exact h.start _
theorem Dk.Few.clear {D : Dk} (h : D.Few) (f : Int) : (D.clear f).1.Few := by
  unfold Dk.clear; split; exact h.start _; exact h.start _
theorem Dk.Few.rename {D : Dk} (h : D.Few) (f g : Int) : (D.rename f g).1.Few := by
  unfold Dk.rename; split; split; exact h.start _; exact h.start _; exact h.start _
theorem Dk.Few.fail (D : Dk) (n : Int) (hn : n ≤ 9223372036854775807) : (D.fail n).Few := by unfold Dk.Few Dk.fail; simp only; omega
theorem Dk.Few.crash (D : Dk) (keep : List Int) : (D.crash keep).Few := Nat.zero_le _
/-- a file cut to its first m bytes, all safe -/
def Dk.cutTo (D : Dk) (k m : Nat) : Dk := { D with b := upd D.b k ((D.b k).take m), s := upd D.s k m }
theorem Dk.Ok.cutTo {D : Dk} (h : D.Ok) (k m : Nat) (hm : m ≤ (D.b k).length) : (D.cutTo k m).Ok := by
  intro f hf
  unfold Dk.cutTo
  by_cases e : f = k
  · subst e; simp only [upd_same, List.length_take]; have := h f hf; omega
  · simp only [upd_ne _ _ e]; exact h f hf
/-- the disk when so many files are cut -/
def cutAll (D : Dk) (keep : List Int) : Nat → Dk
  | 0 => D
  | k + 1 => (cutAll D keep k).cutTo k (D.kept keep k)
theorem cutAll_b (D : Dk) (keep : List Int) (n f : Nat) : (cutAll D keep n).b f = if f < n then (D.b f).take (D.kept keep f) else D.b f := by
  induction n with
  | zero => simp [cutAll]
  | succ n ih =>
    unfold cutAll Dk.cutTo
    simp only [upd]
    by_cases e : f = n
    · subst e; simp [ih]
    · rw [if_neg e, ih]; by_cases h : f < n
      · rw [if_pos h, if_pos (by omega)]
      · rw [if_neg h, if_neg (by omega)]
theorem cutAll_s (D : Dk) (keep : List Int) (n f : Nat) : (cutAll D keep n).s f = if f < n then D.kept keep f else D.s f := by
  induction n with
  | zero => simp [cutAll]
  | succ n ih =>
    unfold cutAll Dk.cutTo
    simp only [upd]
    by_cases e : f = n
    · subst e; simp
    · rw [if_neg e, ih]; by_cases h : f < n
      · rw [if_pos h, if_pos (by omega)]
      · rw [if_neg h, if_neg (by omega)]
theorem cutAll_left (D : Dk) (keep : List Int) (n : Nat) : (cutAll D keep n).left = D.left ∧ (cutAll D keep n).dead = D.dead := by
  induction n with
  | zero => exact ⟨rfl, rfl⟩
  | succ n ih => unfold cutAll Dk.cutTo; exact ih
theorem natmin (a b : Nat) : (a ≤ b ∧ Nat.min a b = a) ∨ (b ≤ a ∧ Nat.min a b = b) := by
  rcases Nat.le_total a b with h | h
  · exact .inl ⟨h, Nat.min_eq_left h⟩
  · exact .inr ⟨h, Nat.min_eq_right h⟩
end Go.DsDk
