/- Some parts of the proof, one behind the other. -/
import Derived.Test.YtkpgfhapffijkaaDoorJgI
/- The place of an error lies within the source, or at its end: plain, a lemma for each parser. -/
namespace Go.Proofs.YtkpgfhapffijkaaDoor
open Go.DsLx Go.DsJd Go.DsMk
set_option linter.unusedVariables false
/-- an error that tells a place within 0..E -/
def FlIn (E : Int) (f : Fl) : Prop := 0 ≤ f.1 ∧ f.1 ≤ E ∧ (f.2 = 0 → f.1 = 0)
/-- words that begin within the source -/
def TkIn (E : Int) (ws : List Tk) : Prop := 0 ≤ E ∧ ∀ t ∈ ws, (t.at_ : Int) ≤ E
def GoodR {α : Type} (E : Int) (q : Except Fl (α × List Tk)) : Prop := match q with | .error f => FlIn E f | .ok p => TkIn E p.2
def Good {α : Type} (E : Int) (p : List Tk → Except Fl (α × List Tk)) : Prop := ∀ ws, TkIn E ws → GoodR E (p ws)
theorem TkIn.tail {E : Int} {ws : List Tk} (h : TkIn E ws) : TkIn E ws.tail := ⟨h.1, fun t ht => h.2 t (List.mem_of_mem_tail ht)⟩
theorem TkIn.fl {E : Int} {ws : List Tk} (h : TkIn E ws) {c : Int} (hc : c ≠ 0) : FlIn E (atF E ws, c) := by
  cases ws with
  | nil => exact ⟨h.1, Int.le_refl _, fun e => absurd e hc⟩
  | cons t r => exact ⟨Int.natCast_nonneg _, h.2 t (by simp), fun e => absurd e hc⟩
theorem fl00 {E : Int} (h : 0 ≤ E) : FlIn E (0, 0) := ⟨Int.le_refl _, h, fun _ => rfl⟩
theorem wordP_good {E k : Int} : Good E (wordP E k) := fun ws h => by
  cases ws with
  | nil => exact ⟨h.1, Int.le_refl _, fun e => by cases e⟩
  | cons t r =>
    show GoodR E (if t.kind = k then .ok (t, r) else .error ((t.at_ : Int), 20))
    by_cases hk : t.kind = k
    · rw [if_pos hk]; exact h.tail
    · rw [if_neg hk]; exact ⟨Int.natCast_nonneg _, h.2 t (by simp), fun e => by cases e⟩
theorem mustP_good {E : Int} {x : ByteArray} {ws : List Tk} (h : TkIn E ws) : match mustP E x ws with | .error f => FlIn E f | .ok r => TkIn E r := by
  unfold mustP
  by_cases hk : textF ws = x
  · rw [if_pos hk]; exact h.tail
  · rw [if_neg hk]; exact h.fl (by decide)
theorem roomP_good {E : Int} {ws : List Tk} {a m : Int} (h : TkIn E ws) : match roomP E ws a m with | .error f => FlIn E f | .ok _ => True := by
  unfold roomP
  by_cases hk : m ≤ a
  · rw [if_pos hk]; exact h.fl (by decide)
  · rw [if_neg hk]; trivial
theorem nameP_good {E : Int} : Good E (nameP E) := fun ws h => by
  have a := wordP_good (k := 1) ws h
  unfold nameP
  generalize wordP E 1 ws = q at a ⊢
  rcases q with f | ⟨t, r⟩ <;> exact a
theorem numP_good {E : Int} : Good E (numP E) := fun ws h => by
  have a := wordP_good (k := 2) ws h
  unfold numP
  generalize wordP E 2 ws = q at a ⊢
  rcases q with f | ⟨t, r⟩ <;> exact a
theorem timeP_good {E : Int} : Good E (timeP E) := fun ws h => by
  have a := wordP_good (k := 3) ws h
  unfold timeP
  generalize wordP E 3 ws = q at a ⊢
  rcases q with f | ⟨t, r⟩ <;> exact a
theorem intP_good {E : Int} : Good E (intP E) := fun ws h => by
  unfold intP
  split
  · have a := numP_good ws.tail h.tail
    generalize numP E ws.tail = q at a ⊢
    rcases q with f | ⟨t, r⟩ <;> exact a
  · exact numP_good ws h
theorem thenP_good {α : Type} {E : Int} {x : ByteArray} {q : Except Fl (α × List Tk)} (h : GoodR E q) : GoodR E (thenP E x q) := by
  unfold thenP
  rcases q with f | ⟨a, r⟩
  · exact h
  · have b := mustP_good (x := x) (show TkIn E r from h)
    show GoodR E (match mustP E x r with | .error f => .error f | .ok r' => .ok (a, r'))
    generalize mustP E x r = q at b ⊢
    rcases q with f | r' <;> exact b
theorem listP_good {α : Type} {E : Int} {sep : ByteArray} {part : List Tk → Except Fl (α × List Tk)} (hp : Good E part) : ∀ n, Good E (listP E sep part n)
  | 0, ws, h => h.fl (by decide)
  | n + 1, ws, h => by
    have a := hp ws h
    unfold listP
    generalize part ws = q at a ⊢
    rcases q with f | ⟨x, r⟩
    · exact a
    · have ha : TkIn E r := a
      show GoodR E (if textF r = sep then (match listP E sep part n r.tail with | .error f => .error f | .ok (l, r2) => .ok (x :: l, r2)) else .ok ([x], r))
      split
      · have b := listP_good (sep := sep) hp n r.tail ha.tail
        generalize listP E sep part n r.tail = q at b ⊢
        rcases q with f | ⟨l, r2⟩ <;> exact b
      · exact ha
theorem choiceP_good {E : Int} {lits : List ByteArray} : Good E (choiceP E lits) := fun ws h => by
  unfold choiceP
  generalize lits.findIdx? (fun x => decide (textF ws = x)) = o
  cases o with
  | some i => exact h.tail
  | none => exact h.fl (by decide)
theorem deepP_good {α : Type} {E d : Int} {part : List Tk → Except Fl (α × List Tk)} (hp : Good E part) : Good E (deepP E d part) := fun ws h => by
  unfold deepP
  split
  · exact h.fl (by decide)
  · exact hp _ h.tail
theorem manyP_good {E : Int} {sep : ByteArray} {op : Int} {one : List Tk → Except Fl (Nd × List Tk)} (hp : Good E one) : Good E (manyP E sep op one) := fun ws h => by
  have a := listP_good (sep := sep) hp 8 ws h
  unfold manyP
  generalize listP E sep one 8 ws = q at a ⊢
  rcases q with f | ⟨l, r⟩ <;> exact a
theorem manyE_good {E : Int} {sep : ByteArray} {op : Int} {one : List Tk → Except Fl (Ex × List Tk)} (hp : Good E one) : Good E (manyE E sep op one) := fun ws h => by
  have a := listP_good (sep := sep) hp 8 ws h
  unfold manyE
  generalize listP E sep one 8 ws = q at a ⊢
  rcases q with f | ⟨l, r⟩ <;> exact a
theorem daysP_good {E : Int} {one : List Tk → Except Fl (Nd × List Tk)} (hp : Good E one) : Good E (daysP E one) := manyP_good (manyP_good hp)
theorem condP_good {E : Int} {one : List Tk → Except Fl (Ex × List Tk)} (hp : Good E one) : Good E (condP E one) := manyE_good (manyE_good hp)
theorem notP_good {E : Int} {q : Except Fl (Nd × List Tk)} (h : GoodR E q) : GoodR E (notP q) := by
  unfold notP; rcases q with f | ⟨l, r⟩ <;> exact h
theorem refP_good {E : Int} {q : Except Fl (ByteArray × List Tk)} (h : GoodR E q) : GoodR E (refP q) := by
  unfold refP; rcases q with f | ⟨l, r⟩ <;> exact h
theorem notE_good {E : Int} {q : Except Fl (Ex × List Tk)} (h : GoodR E q) : GoodR E (notE q) := by
  unfold notE; rcases q with f | ⟨l, r⟩ <;> exact h
theorem hasE_good {E : Int} {q : Except Fl ((ByteArray × Int) × List Tk)} (h : GoodR E q) : GoodR E (hasE q) := by
  unfold hasE; rcases q with f | ⟨l, r⟩ <;> exact h
theorem twoP_good {α β : Type} {E : Int} {p1 : List Tk → Except Fl (α × List Tk)} {p2 : List Tk → Except Fl (β × List Tk)} (h1 : Good E p1) (h2 : Good E p2) : Good E (twoP p1 p2) := fun ws h => by
  have a := h1 ws h
  unfold twoP
  generalize p1 ws = q at a ⊢
  rcases q with f | ⟨x, r⟩
  · exact a
  · have b := h2 r a
    show GoodR E (match p2 r with | .error f => .error f | .ok (b, r2) => .ok ((x, b), r2))
    generalize p2 r = q at b ⊢
    rcases q with f | ⟨y, r2⟩ <;> exact b
theorem pairP_good {E : Int} {p1 p2 : List Tk → Except Fl (Int × List Tk)} (h1 : Good E p1) (h2 : Good E p2) : Good E (pairP E p1 p2) := fun ws h => by
  have a := thenP_good (x := ⟨#[44]⟩) (h1 ws h)
  unfold pairP
  generalize thenP E ⟨#[44]⟩ (p1 ws) = q at a ⊢
  rcases q with f | ⟨x, r⟩
  · exact a
  · have b := h2 r a
    show GoodR E (match p2 r with | .error f => .error f | .ok (b, r2) => .ok ([x, b], r2))
    generalize p2 r = q at b ⊢
    rcases q with f | ⟨y, r2⟩ <;> exact b
theorem refWP_good {E : Int} : Good E (refWP E) := fun ws h => by
  have a := nameP_good ws h
  unfold refWP
  generalize nameP E ws = q at a ⊢
  rcases q with f | ⟨n, r⟩
  · exact a
  · have ha : TkIn E r := a
    show GoodR E (if textF r = ⟨#[46]⟩ then (match choiceP E whenL r.tail with | .error f => .error f | .ok (i, r2) => .ok ((n, i), r2)) else .ok ((n, 0), r))
    split
    · have b := choiceP_good (lits := whenL) r.tail ha.tail
      generalize choiceP E whenL r.tail = q at b ⊢
      rcases q with f | ⟨i, r2⟩ <;> exact b
    · exact ha
theorem workP_good {E : Int} : Good E (workP E) := fun ws h => by
  have a := thenP_good (x := ⟨#[44]⟩) (intP_good ws h)
  unfold workP
  generalize thenP E ⟨#[44]⟩ (intP E ws) = q at a ⊢
  rcases q with f | ⟨k, r⟩
  · exact a
  · have b := nameP_good r a
    show GoodR E (match nameP E r with | .error f => .error f | .ok (n, r2) => .ok (Nd.mk 5 [k] [] n, r2))
    generalize nameP E r = q at b ⊢
    rcases q with f | ⟨n, r2⟩ <;> exact b
theorem dateP_good {E : Int} : Good E (dateP E) := fun ws h => by
  have a := wordP_good (k := 2) ws h
  unfold dateP
  generalize wordP E 2 ws = q at a ⊢
  rcases q with f | ⟨t, r⟩
  · exact a
  · show GoodR E (if (DsCal.rdres t.text).2 = 0 then .ok ((DsCal.rdres t.text).1, r) else .error (atF E ws, 20))
    split
    · exact a
    · exact h.fl (by decide)
theorem datesP_good {E : Int} : Good E (datesP E) := fun ws h => by
  unfold datesP
  split
  · exact h
  · exact listP_good dateP_good 64 ws h
theorem numsP_good {E op : Int} {q : Except Fl (List Int × List Tk)} (h : GoodR E q) : GoodR E (numsP op q) := by
  unfold numsP; rcases q with f | ⟨l, r⟩ <;> exact h
theorem weekP_good {E : Int} : Good E (weekP E) := fun ws h => by
  have a := listP_good (sep := ⟨#[44]⟩) (choiceP_good (E := E) (lits := weekL)) 8192 ws h
  unfold weekP
  generalize listP E ⟨#[44]⟩ (choiceP E weekL) 8192 ws = q at a ⊢
  rcases q with f | ⟨l, r⟩ <;> exact a
theorem bodyP_good {E : Int} {x : ByteArray} : Good E (bodyP E x) := fun ws h => by
  unfold bodyP
  split
  · exact weekP_good ws h
  split
  · exact numsP_good (datesP_good ws h)
  split
  · exact numsP_good (listP_good intP_good 64 ws h)
  split
  · exact numsP_good (pairP_good choiceP_good intP_good ws h)
  split
  · exact workP_good ws h
  · exact numsP_good (pairP_good numP_good numP_good ws h)
theorem callP_good {E : Int} : Good E (callP E) := fun ws h => by
  have a := nameP_good ws h
  unfold callP
  generalize nameP E ws = q at a ⊢
  rcases q with f | ⟨x, r⟩
  · exact a
  · have b := mustP_good (x := ⟨#[40]⟩) (show TkIn E r from a)
    show GoodR E (match mustP E ⟨#[40]⟩ r with | .error f => .error f | .ok r1 => thenP E ⟨#[41]⟩ (bodyP E x r1))
    generalize mustP E ⟨#[40]⟩ r = q at b ⊢
    rcases q with f | r1
    · exact b
    · exact thenP_good (bodyP_good r1 b)
theorem oneStep_good {E d : Int} {call one : List Tk → Except Fl (Nd × List Tk)} (hc : Good E call) (ho : Good E one) : Good E (oneStep E d call one) := fun ws h => by
  unfold oneStep
  split
  · exact notP_good (deepP_good ho ws h)
  split
  · exact thenP_good (deepP_good (daysP_good ho) ws h)
  split
  · exact hc ws h
  split
  · exact h.fl (by decide)
  · exact refP_good (nameP_good ws h)
theorem eachStep_good {E d : Int} {one : List Tk → Except Fl (Ex × List Tk)} (ho : Good E one) : Good E (eachStep E d one) := fun ws h => by
  unfold eachStep
  split
  · exact notE_good (deepP_good ho ws h)
  split
  · exact thenP_good (deepP_good (condP_good ho) ws h)
  split
  · exact h.fl (by decide)
  · exact hasE_good (refWP_good ws h)
theorem oneP_good {E : Int} : ∀ k, Good E (oneP E k)
  | 0, ws, h => oneStep_good (d := 16) (one := fun _ => .error (0, 0)) callP_good (fun ws h => fl00 h.1) ws h
  | k + 1, ws, h => oneStep_good callP_good (oneP_good k) ws h
theorem eachP_good {E : Int} : ∀ k, Good E (eachP E k)
  | 0, ws, h => eachStep_good (d := 16) (one := fun _ => .error (0, 0)) (fun ws h => fl00 h.1) ws h
  | k + 1, ws, h => eachStep_good (eachP_good k) ws h
theorem calP_good {E : Int} : Good E (calP E) := fun ws h => by
  have a := thenP_good (x := ⟨#[61]⟩) (nameP_good ws h)
  unfold calP
  generalize thenP E ⟨#[61]⟩ (nameP E ws) = q at a ⊢
  rcases q with f | ⟨n, r⟩
  · exact a
  · have b := daysP_good (oneP_good 16) r a
    show GoodR E (match daysP E (oneP E 16) r with | .error f => .error f | .ok (t, r2) => .ok ((n, t), r2))
    generalize daysP E (oneP E 16) r = q at b ⊢
    rcases q with f | ⟨t, r2⟩ <;> exact b
theorem updP_good {α : Type} {E : Int} {f : α → Jb} {q : Except Fl (α × List Tk)} (h : GoodR E q) : GoodR E (updP f q) := by
  unfold updP; rcases q with f | ⟨l, r⟩ <;> exact h
theorem singleP_good {E : Int} {x : Jb} : Good E (singleP E x) := fun ws h => by
  have ht := h.tail
  unfold singleP
  split
  · exact updP_good (thenP_good (daysP_good (oneP_good 16) _ ht))
  split
  · exact updP_good (thenP_good (twoP_good choiceP_good (daysP_good (oneP_good 16)) _ ht))
  split
  · exact updP_good (thenP_good (twoP_good timeP_good timeP_good _ ht))
  split
  · exact updP_good (thenP_good (condP_good (eachP_good 16) _ ht))
  split
  · exact updP_good (thenP_good (numP_good _ ht))
  split
  · exact updP_good (thenP_good (numP_good _ ht))
  split
  · exact updP_good (thenP_good (numP_good _ ht))
  split
  · exact updP_good (thenP_good (numP_good _ ht))
  split
  · exact updP_good (thenP_good (numP_good _ ht))
  · exact h.fl (by decide)
theorem restP_good {E k : Int} {S : List (Int × ByteArray)} {x : Jb} : Good E (restP E k S x) := fun ws h => by
  unfold restP
  split
  · exact h.fl (by decide)
  · have a := singleP_good (x := x) ws h
    generalize singleP E x ws = q at a ⊢
    rcases q with f | ⟨l, r⟩ <;> exact a
theorem outPP_good {E : Int} {S : List (Int × ByteArray)} {x : Jb} {q : Except Fl (List Oc × List Tk)} (h : GoodR E q) : GoodR E (outPP S x q) := by
  unfold outPP; rcases q with f | ⟨l, r⟩ <;> exact h
theorem moreP_good {α : Type} {E : Int} {S : List (Int × ByteArray)} {x : Jb} {f : α → Nv} {ws : List Tk} {q : Except Fl (α × List Tk)} (hw : TkIn E ws) (h : GoodR E q) : GoodR E (moreP E S x f ws q) := by
  have b := roomP_good (a := x.needs.length) (m := 6) hw
  unfold moreP
  generalize roomP E ws x.needs.length 6 = u at b ⊢
  rcases u with e | u
  · exact b
  · rcases q with f | ⟨l, r⟩ <;> exact h
theorem partP_good {E k : Int} {S : List (Int × ByteArray)} {x : Jb} : Good E (partP E k S x) := fun ws h => by
  have ht := h.tail
  unfold partP
  split
  · exact outPP_good (thenP_good (listP_good (twoP_good choiceP_good refWP_good) _ _ ht))
  split
  · exact moreP_good h (thenP_good (twoP_good nameP_good numP_good _ ht))
  split
  · exact moreP_good h (thenP_good (twoP_good nameP_good choiceP_good _ ht))
  · exact restP_good ws h
theorem partsP_good {E k : Int} : ∀ (g : Nat) (S : List (Int × ByteArray)) (x : Jb), Good E (partsP E k g S x)
  | 0, S, x, ws, h => fl00 h.1
  | g + 1, S, x, ws, h => by
    unfold partsP
    split
    · exact h.tail
    · have a := partP_good (k := k) (S := S) (x := x) ws h
      generalize partP E k S x ws = q at a ⊢
      rcases q with f | ⟨p, r⟩
      · exact a
      · exact partsP_good g p.2 p.1 r a
theorem jobP_good {E k : Int} {S : List (Int × ByteArray)} : Good E (jobP E k S) := fun ws h => by
  have a := nameP_good ws.tail h.tail
  unfold jobP
  generalize nameP E ws.tail = q at a ⊢
  rcases q with f | ⟨n, r⟩
  · exact a
  · have b := mustP_good (x := ⟨#[123]⟩) (show TkIn E r from a)
    show GoodR E (match mustP E ⟨#[123]⟩ r with | .error f => .error f | .ok r1 => partsP E k (r1.length + 1) S (jb0 n) r1)
    generalize mustP E ⟨#[123]⟩ r = q at b ⊢
    rcases q with f | r1
    · exact b
    · exact partsP_good _ S (jb0 n) r1 b
theorem onceP_good {E : Int} {S : List (Int × ByteArray)} {ws : List Tk} {f : Int → Srcp} {q : Except Fl (Int × List Tk)} (hw : TkIn E ws) (h : GoodR E q) : GoodR E (onceP E S ws f q) := by
  unfold onceP
  split
  · exact hw.fl (by decide)
  · rcases q with f | ⟨l, r⟩ <;> exact h
theorem moreS_good {α : Type} {E : Int} {S : List (Int × ByteArray)} {ws : List Tk} {k m : Int} {f : α → Srcp} {q : Except Fl (α × List Tk)} (hw : TkIn E ws) (h : GoodR E q) : GoodR E (moreS E S ws k m f q) := by
  have b := roomP_good (a := k) (m := m) hw
  unfold moreS
  generalize roomP E ws k m = u at b ⊢
  rcases u with e | u
  · exact b
  · rcases q with f | ⟨l, r⟩ <;> exact h
theorem jobS_good {E : Int} {S : List (Int × ByteArray)} {x : Srcp} {ws : List Tk} {q : Except Fl ((Jb × List (Int × ByteArray)) × List Tk)} (hw : TkIn E ws) (h : GoodR E q) : GoodR E (jobS E S x ws q) := by
  have b := roomP_good (a := x.jobs.length) (m := 48) hw
  unfold jobS
  generalize roomP E ws x.jobs.length 48 = u at b ⊢
  rcases u with e | u
  · exact b
  · rcases q with f | ⟨l, r⟩ <;> exact h
theorem itemP_good {E : Int} {S : List (Int × ByteArray)} {x : Srcp} : Good E (itemP E S x) := fun ws h => by
  have ht := h.tail
  unfold itemP
  split
  · exact onceP_good h (thenP_good (timeP_good _ ht))
  split
  · exact onceP_good h (thenP_good (numP_good _ ht))
  split
  · exact moreS_good h (thenP_good (calP_good _ ht))
  split
  · exact moreS_good h (thenP_good (twoP_good nameP_good numP_good _ ht))
  split
  · exact moreS_good h (thenP_good (nameP_good _ ht))
  split
  · exact jobS_good h (jobP_good ws h)
  · exact h.fl (by decide)
theorem itemsP_good {E : Int} : ∀ (g : Nat) (S : List (Int × ByteArray)) (x : Srcp) (ws : List Tk), TkIn E ws → ∀ f, itemsP E g S x ws = .error f → FlIn E f
  | 0, S, x, ws, h, f, e => by unfold itemsP at e; cases e; exact fl00 h.1
  | g + 1, S, x, ws, h, f, e => by
    unfold itemsP at e
    split at e
    · cases e
    · have a := itemP_good (S := S) (x := x) ws h
      generalize itemP E S x ws = q at a e
      rcases q with f' | ⟨p, r⟩
      · cases e; exact a
      · exact itemsP_good g p.2 p.1 r a f e
theorem sourceP_good {E : Int} {ws : List Tk} (h : TkIn E ws) {f : Fl} (e : sourceP E ws = .error f) : FlIn E f := by
  unfold sourceP at e
  have a := itemsP_good (E := E) (ws.length + 1) [] src0 ws h
  generalize itemsP E (ws.length + 1) [] src0 ws = q at a e
  rcases q with f' | ⟨p, r⟩
  · cases e; exact a f rfl
  · cases e
theorem tokG_at (s : ByteArray) : ∀ (f k : Nat) (acc : List Tk), (tokG s f k acc).2.1 ≤ s.size
  | 0, _, _ => Nat.zero_le _
  | f + 1, k, acc => by
    rw [tokG]
    split
    · split
      · exact tokG_at s f _ _
      · rename_i h _
        show k ≤ s.size
        omega
    · exact Nat.zero_le _
theorem tokens_place_le (s : ByteArray) : (tokensF s).2.1 ≤ s.size := by
  unfold tokensF tokW
  split
  · exact Nat.zero_le _
  · exact tokG_at s _ _ _
/-- Parse's error tells a place within the source, or its end -/
theorem parseP_good {s : ByteArray} {f : Fl} (h : parseP s = .error f) : FlIn (s.size : Int) f := by
  unfold parseP at h
  by_cases h0 : (tokensF s).2.2 = 0
  · rw [if_pos h0] at h
    refine sourceP_good (ws := (tokensF s).1) ⟨Int.natCast_nonneg _, fun t ht => ?_⟩ h
    have := (toks_in h0 t ht).1
    exact Int.ofNat_le.2 this
  · rw [if_neg h0] at h
    cases h
    exact ⟨Int.natCast_nonneg _, Int.ofNat_le.2 (tokens_place_le s), fun e => absurd e h0⟩
end Go.Proofs.YtkpgfhapffijkaaDoor

/- Computable twins of what Parse reads; what known of layer 8 asks. -/
namespace Go.Proofs.YtkpgfhapffijkaaDoor
open Go.DsLx Go.DsJd Go.DsMk
set_option linter.unusedVariables false
def memQ (p : Int × ByteArray) (S : List (Int × ByteArray)) : Bool := S.any (fun q => decide (q.1 = p.1 ∧ q.2 = p.2))
theorem memQ_iff {p : Int × ByteArray} {S : List (Int × ByteArray)} : memQ p S = true ↔ p ∈ S := by
  unfold memQ
  rw [List.any_eq_true]
  constructor
  · rintro ⟨q, hq, h⟩
    have h := of_decide_eq_true h
    obtain ⟨a, b⟩ := q
    obtain ⟨c, d⟩ := p
    simp only at h
    rw [← h.1, ← h.2]; exact hq
  · exact fun h => ⟨p, h, by simp⟩
def restQ (E : Int) (k : Int) (S : List (Int × ByteArray)) (x : Jb) (ws : List Tk) : Except Fl ((Jb × List (Int × ByteArray)) × List Tk) :=
  if memQ (k, textF ws) S = true then .error (atF E ws, 22) else match singleP E x ws with | .error f => .error f | .ok (x', r) => .ok ((x', (k, textF ws) :: S), r)
theorem restQ_eq {E k : Int} {S : List (Int × ByteArray)} {x : Jb} {ws : List Tk} : restP E k S x ws = restQ E k S x ws := by
  unfold restP restQ
  by_cases h : (k, textF ws) ∈ S
  · rw [if_pos h, if_pos (memQ_iff.2 h)]
  · rw [if_neg h, if_neg (fun e => h (memQ_iff.1 e))]; rfl
def partQ (E : Int) (k : Int) (S : List (Int × ByteArray)) (x : Jb) (ws : List Tk) : Except Fl ((Jb × List (Int × ByteArray)) × List Tk) :=
  if textF ws = wOut then outPP S x (thenP E ⟨#[59]⟩ (outsP E (8 - x.outs.length) ws.tail))
  else if textF ws = wNeed then moreP E S x (fun p => (p.1, (p.2, 0))) ws (thenP E ⟨#[59]⟩ (twoP (nameP E) (numP E) ws.tail))
  else if textF ws = wUse then moreP E S x (fun p => (p.1, (0, p.2 + 1))) ws (thenP E ⟨#[59]⟩ (twoP (nameP E) (choiceP E modeL) ws.tail))
  else restQ E k S x ws
theorem partQ_eq {E k : Int} {S : List (Int × ByteArray)} {x : Jb} {ws : List Tk} : partP E k S x ws = partQ E k S x ws := by
  unfold partP partQ
  rw [restQ_eq]
def partsQ (E : Int) (k : Int) : Nat → List (Int × ByteArray) → Jb → List Tk → Except Fl ((Jb × List (Int × ByteArray)) × List Tk)
  | 0, _, _, _ => .error (0, 0)
  | g + 1, S, x, ws => if textF ws = ⟨#[125]⟩ then .ok ((x, S), ws.tail) else match partQ E k S x ws with | .error f => .error f | .ok (p, r) => partsQ E k g p.2 p.1 r
theorem partsQ_eq {E k : Int} : ∀ (g : Nat) (S : List (Int × ByteArray)) (x : Jb) (ws : List Tk), partsP E k g S x ws = partsQ E k g S x ws
  | 0, _, _, _ => rfl
  | g + 1, S, x, ws => by
    unfold partsP partsQ
    rw [partQ_eq]
    split
    · rfl
    · generalize partQ E k S x ws = q
      rcases q with f | ⟨p, r⟩
      · rfl
      · exact partsQ_eq g _ _ _
def jobQ (E : Int) (k : Int) (S : List (Int × ByteArray)) (ws : List Tk) : Except Fl ((Jb × List (Int × ByteArray)) × List Tk) :=
  match nameP E ws.tail with
  | .error f => .error f
  | .ok (n, r) => match mustP E ⟨#[123]⟩ r with
    | .error f => .error f
    | .ok r1 => partsQ E k (r1.length + 1) S (jb0 n) r1
theorem jobQ_eq {E k : Int} {S : List (Int × ByteArray)} {ws : List Tk} : jobP E k S ws = jobQ E k S ws := by
  unfold jobP jobQ
  generalize nameP E ws.tail = q
  rcases q with f | ⟨n, r⟩
  · rfl
  · dsimp only
    generalize mustP E ⟨#[123]⟩ r = q
    rcases q with f | r1
    · rfl
    · exact partsQ_eq _ _ _ _
def onceQ (E : Int) (S : List (Int × ByteArray)) (ws : List Tk) (f : Int → Srcp) (q : Except Fl (Int × List Tk)) : Except Fl ((Srcp × List (Int × ByteArray)) × List Tk) :=
  if memQ (0, textF ws) S = true then .error (atF E ws, 22) else match q with | .error e => .error e | .ok (a, r) => .ok ((f a, (0, textF ws) :: S), r)
theorem onceQ_eq {E : Int} {S : List (Int × ByteArray)} {ws : List Tk} {f : Int → Srcp} {q : Except Fl (Int × List Tk)} : onceP E S ws f q = onceQ E S ws f q := by
  unfold onceP onceQ
  by_cases h : (0, textF ws) ∈ S
  · rw [if_pos h, if_pos (memQ_iff.2 h)]
  · rw [if_neg h, if_neg (fun e => h (memQ_iff.1 e))]; rfl
def jobSQ (E : Int) (S : List (Int × ByteArray)) (x : Srcp) (ws : List Tk) (q : Except Fl ((Jb × List (Int × ByteArray)) × List Tk)) : Except Fl ((Srcp × List (Int × ByteArray)) × List Tk) :=
  match roomP E ws x.jobs.length 48 with
  | .error f => .error f
  | .ok _ => match q with | .error f => .error f | .ok (p, r) => .ok (({ x with jobs := x.jobs ++ [p.1] }, p.2), r)
theorem jobSQ_eq {E : Int} {S : List (Int × ByteArray)} {x : Srcp} {ws : List Tk} {q : Except Fl ((Jb × List (Int × ByteArray)) × List Tk)} : jobS E S x ws q = jobSQ E S x ws q := rfl
def itemQ (E : Int) (S : List (Int × ByteArray)) (x : Srcp) (ws : List Tk) : Except Fl ((Srcp × List (Int × ByteArray)) × List Tk) :=
  if textF ws = wBegin then onceQ E S ws (fun a => { x with start := a }) (thenP E ⟨#[59]⟩ (timeP E ws.tail))
  else if textF ws = wKeep then onceQ E S ws (fun a => { x with keep := a }) (thenP E ⟨#[59]⟩ (numP E ws.tail))
  else if textF ws = wCal then moreS E S ws x.cals.length 24 (fun a => { x with cals := x.cals ++ [a] }) (thenP E ⟨#[59]⟩ (calP E ws.tail))
  else if textF ws = wRes then moreS E S ws x.res.length 12 (fun p => { x with res := x.res ++ [(p.1, (p.2, false))] }) (thenP E ⟨#[59]⟩ (twoP (nameP E) (numP E) ws.tail))
  else if textF ws = wLock then moreS E S ws x.res.length 12 (fun p => { x with res := x.res ++ [(p, (0, true))] }) (thenP E ⟨#[59]⟩ (nameP E ws.tail))
  else if textF ws = wJob then jobSQ E S x ws (jobQ E (x.jobs.length + 1) S ws)
  else .error (atF E ws, 20)
theorem itemQ_eq {E : Int} {S : List (Int × ByteArray)} {x : Srcp} {ws : List Tk} : itemP E S x ws = itemQ E S x ws := by
  unfold itemP itemQ
  rw [onceQ_eq, onceQ_eq, jobSQ_eq, jobQ_eq]
def itemsQ (E : Int) : Nat → List (Int × ByteArray) → Srcp → List Tk → Except Fl (Srcp × List (Int × ByteArray))
  | 0, _, _, _ => .error (0, 0)
  | g + 1, S, x, ws => match ws with
    | [] => .ok (x, S)
    | t :: l => match itemQ E S x (t :: l) with | .error f => .error f | .ok (p, r) => itemsQ E g p.2 p.1 r
theorem itemsQ_eq {E : Int} : ∀ (g : Nat) (S : List (Int × ByteArray)) (x : Srcp) (ws : List Tk), itemsP E g S x ws = itemsQ E g S x ws
  | 0, _, _, _ => rfl
  | g + 1, S, x, ws => by
    unfold itemsP itemsQ
    cases ws with
    | nil => rfl
    | cons t l =>
      rw [if_neg (by simp), itemQ_eq]
      dsimp only
      generalize itemQ E S x (t :: l) = q
      rcases q with f | ⟨p, r⟩
      · rfl
      · exact itemsQ_eq g _ _ _
def sourceQ (E : Int) (ws : List Tk) : Except Fl Srcp := match itemsQ E (ws.length + 1) [] src0 ws with | .error f => .error f | .ok (x, _) => .ok x
def parseQ (s : ByteArray) : Except Fl Srcp := if (tokensF s).2.2 = 0 then sourceQ s.size (tokensF s).1 else .error (((tokensF s).2.1 : Int), (tokensF s).2.2)
theorem parseQ_eq (s : ByteArray) : parseP s = parseQ s := by
  unfold parseP parseQ sourceP sourceQ
  rw [itemsQ_eq]
  rfl
def okS (p : Srcp → Bool) : Except Fl Srcp → Bool
  | .error _ => false
  | .ok x => p x
def erS (p : Fl → Bool) : Except Fl Srcp → Bool
  | .error f => p f
  | .ok _ => false
theorem okS_of {p : Srcp → Bool} {s : ByteArray} (h : okS p (parseQ s) = true) : ∃ x, parseP s = .ok x ∧ p x = true := by
  rw [parseQ_eq]
  generalize parseQ s = q at h
  rcases q with f | x
  · cases h
  · exact ⟨x, rfl, h⟩
theorem erS_of {p : Fl → Bool} {s : ByteArray} (h : erS p (parseQ s) = true) : ∃ f, parseP s = .error f ∧ p f = true := by
  rw [parseQ_eq]
  generalize parseQ s = q at h
  rcases q with f | x
  · exact ⟨f, rfl, h⟩
  · cases h
/-- the two sources of known -/
def src81 : ByteArray := ⟨#[106, 111, 98, 32, 97, 32, 123, 32, 100, 97, 121, 115, 32, 119, 101, 101, 107, 40, 109, 111, 110, 44, 32, 102, 114, 105, 41, 32, 97, 110, 100, 32, 110, 111, 116, 32, 104, 111, 108, 59, 32, 111, 117, 116, 32, 43, 97, 44, 32, 45, 98, 46, 112, 114, 101, 118, 59, 32, 125]⟩
def src82 : ByteArray := ⟨#[106, 111, 98, 32, 97, 32, 123, 32, 112, 114, 105, 111, 32, 49, 59, 32, 112, 114, 105, 111, 32, 50, 59, 32, 125]⟩
def kn81 (x : Srcp) : Bool := x.keep == 7 && (match x.jobs with
  | [j] => decide (j.name = ⟨#[97]⟩) && j.till == 1439 && j.runs == 1 &&
    (match j.days with
    | .mk 7 [] [.mk 1 [17] [] _, .mk 9 [] [.mk 10 [] [] n] _] _ => decide (n = ⟨#[104, 111, 108]⟩)
    | _ => false) &&
    (match j.outs with
    | [o1, o2] => o1.1 == 0 && o2.2.2 == 1
    | _ => false)
  | _ => false)
theorem known81 : ∃ x, parseP src81 = .ok x ∧ kn81 x = true := okS_of (by decide +kernel)
theorem known82 : parseP src82 = .error (16, 22) := by
  obtain ⟨f, h1, h2⟩ := erS_of (s := src82) (p := fun f => f.1 == 16 && f.2 == 22) (by decide +kernel)
  obtain ⟨a, c⟩ := f
  simp at h2
  rw [h1, h2.1, h2.2]

end Go.Proofs.YtkpgfhapffijkaaDoor

/- What known's first source says, opened (plain). -/
namespace Go.Proofs.YtkpgfhapffijkaaDoor
open Go.DsLx Go.DsJd Go.DsMk
set_option linter.unusedVariables false
theorem kn81_of {x : Srcp} (h : kn81 x = true) : x.keep = 7 ∧ ∃ j, x.jobs = [j] ∧ j.name = ⟨#[97]⟩ ∧ j.till = 1439 ∧ j.runs = 1 ∧ (∃ n1 n2 n3, j.days = Nd.mk 7 [] [Nd.mk 1 [17] [] n1, Nd.mk 9 [] [Nd.mk 10 [] [] ⟨#[104, 111, 108]⟩] n2] n3) ∧ ∃ o1 o2, j.outs = [o1, o2] ∧ o1.1 = 0 ∧ o2.2.2 = 1 := by
  unfold kn81 at h
  simp only [Bool.and_eq_true, beq_iff_eq] at h
  obtain ⟨hk, h⟩ := h
  refine ⟨hk, ?_⟩
  generalize x.jobs = l at h
  match l, h with
  | [j], h =>
    simp only [Bool.and_eq_true, beq_iff_eq, decide_eq_true_eq] at h
    obtain ⟨⟨⟨⟨h1, h2⟩, h3⟩, h4⟩, h5⟩ := h
    refine ⟨j, rfl, h1, h2, h3, ?_, ?_⟩
    · generalize j.days = d at h4
      split at h4
      · rename_i a b n c
        have h4 := of_decide_eq_true h4
        subst_vars; exact ⟨_, _, _, rfl⟩
      · cases h4
    · generalize j.outs = o at h5
      match o, h5 with
      | [o1, o2], h5 =>
        simp only [Bool.and_eq_true, beq_iff_eq] at h5
        exact ⟨o1, o2, rfl, h5.1, h5.2⟩
end Go.Proofs.YtkpgfhapffijkaaDoor

