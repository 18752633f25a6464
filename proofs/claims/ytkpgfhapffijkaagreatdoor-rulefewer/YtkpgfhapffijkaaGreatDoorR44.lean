/- The place of an error lies within the source, or at its end: plain, a lemma for each parser. -/
import Derived.Test.YtkpgfhapffijkaaGreatDoorR42
namespace Go.Proofs.YtkpgfhapffijkaaGreatDoor
open Go.DsLx Go.DsJd Go.DsMk
set_option linter.unusedVariables false
/-- words that begin within the source -/
def TkIn (E : Int) (ws : List Tk) : Prop := 0 ≤ E ∧ ∀ t ∈ ws, (t.at_ : Int) ≤ E
theorem TkIn.tail {E : Int} {ws : List Tk} (h : TkIn E ws) : TkIn E ws.tail := ⟨h.1, fun t ht => h.2 t (List.mem_of_mem_tail ht)⟩
end Go.Proofs.YtkpgfhapffijkaaGreatDoor

/- An error of Parse tells a number that is not 0: plain, a lemma for each parser. -/
namespace Go.Proofs.YtkpgfhapffijkaaGreatDoor
open Go.DsLx Go.DsJd Go.DsMk
set_option linter.unusedVariables false
def FlZ (E : Int) (f : Fl) : Prop := f.2 ≠ 0
def ZerR {α : Type} (E : Int) (q : Except Fl (α × List Tk)) : Prop := match q with | .error f => FlZ E f | .ok p => TkIn E p.2
def Zer {α : Type} (E : Int) (p : List Tk → Except Fl (α × List Tk)) : Prop := ∀ ws, TkIn E ws → ZerR E (p ws)
theorem TkIn.flz {E : Int} {ws : List Tk} (h : TkIn E ws) {c : Int} (hc : c ≠ 0) : FlZ E (atF E ws, c) := hc
theorem wordP_zer {E k : Int} : Zer E (wordP E k) := fun ws h => by
  cases ws with
  | nil => exact (show (20 : Int) ≠ 0 by decide)
  | cons t r =>
    show ZerR E (if t.kind = k then .ok (t, r) else .error ((t.at_ : Int), 20))
    by_cases hk : t.kind = k
    · rw [if_pos hk]; exact h.tail
    · rw [if_neg hk]; exact (show (20 : Int) ≠ 0 by decide)
theorem mustP_zer {E : Int} {x : ByteArray} {ws : List Tk} (h : TkIn E ws) : match mustP E x ws with | .error f => FlZ E f | .ok r => TkIn E r := by
  unfold mustP
  by_cases hk : textF ws = x
  · rw [if_pos hk]; exact h.tail
  · rw [if_neg hk]; exact h.flz (by decide)
theorem roomP_zer {E : Int} {ws : List Tk} {a m : Int} (h : TkIn E ws) : match roomP E ws a m with | .error f => FlZ E f | .ok _ => True := by
  unfold roomP
  by_cases hk : m ≤ a
  · rw [if_pos hk]; exact h.flz (by decide)
  · rw [if_neg hk]; trivial
theorem nameP_zer {E : Int} : Zer E (nameP E) := fun ws h => by
  have a := wordP_zer (k := 1) ws h
  unfold nameP
  generalize wordP E 1 ws = q at a ⊢
  rcases q with f | ⟨t, r⟩ <;> exact a
theorem numP_zer {E : Int} : Zer E (numP E) := fun ws h => by
  have a := wordP_zer (k := 2) ws h
  unfold numP
  generalize wordP E 2 ws = q at a ⊢
  rcases q with f | ⟨t, r⟩ <;> exact a
theorem timeP_zer {E : Int} : Zer E (timeP E) := fun ws h => by
  have a := wordP_zer (k := 3) ws h
  unfold timeP
  generalize wordP E 3 ws = q at a ⊢
  rcases q with f | ⟨t, r⟩ <;> exact a
theorem intP_zer {E : Int} : Zer E (intP E) := fun ws h => by
  unfold intP
  split
  · have a := numP_zer ws.tail h.tail
    generalize numP E ws.tail = q at a ⊢
    rcases q with f | ⟨t, r⟩ <;> exact a
  · exact numP_zer ws h
theorem thenP_zer {α : Type} {E : Int} {x : ByteArray} {q : Except Fl (α × List Tk)} (h : ZerR E q) : ZerR E (thenP E x q) := by
  unfold thenP
  rcases q with f | ⟨a, r⟩
  · exact h
  · have b := mustP_zer (x := x) (show TkIn E r from h)
    show ZerR E (match mustP E x r with | .error f => .error f | .ok r' => .ok (a, r'))
    generalize mustP E x r = q at b ⊢
    rcases q with f | r' <;> exact b
theorem listP_zer {α : Type} {E : Int} {sep : ByteArray} {part : List Tk → Except Fl (α × List Tk)} (hp : Zer E part) : ∀ n, Zer E (listP E sep part n)
  | 0, ws, h => h.flz (by decide)
  | n + 1, ws, h => by
    have a := hp ws h
    unfold listP
    generalize part ws = q at a ⊢
    rcases q with f | ⟨x, r⟩
    · exact a
    · have ha : TkIn E r := a
      show ZerR E (if textF r = sep then (match listP E sep part n r.tail with | .error f => .error f | .ok (l, r2) => .ok (x :: l, r2)) else .ok ([x], r))
      split
      · have b := listP_zer (sep := sep) hp n r.tail ha.tail
        generalize listP E sep part n r.tail = q at b ⊢
        rcases q with f | ⟨l, r2⟩ <;> exact b
      · exact ha
theorem choiceP_zer {E : Int} {lits : List ByteArray} : Zer E (choiceP E lits) := fun ws h => by
  unfold choiceP
  generalize lits.findIdx? (fun x => decide (textF ws = x)) = o
  cases o with
  | some i => exact h.tail
  | none => exact h.flz (by decide)
theorem deepP_zer {α : Type} {E d : Int} {part : List Tk → Except Fl (α × List Tk)} (hp : Zer E part) : Zer E (deepP E d part) := fun ws h => by
  unfold deepP
  split
  · exact h.flz (by decide)
  · exact hp _ h.tail
theorem manyP_zer {E : Int} {sep : ByteArray} {op : Int} {one : List Tk → Except Fl (Nd × List Tk)} (hp : Zer E one) : Zer E (manyP E sep op one) := fun ws h => by
  have a := listP_zer (sep := sep) hp 8 ws h
  unfold manyP
  generalize listP E sep one 8 ws = q at a ⊢
  rcases q with f | ⟨l, r⟩ <;> exact a
theorem manyE_zer {E : Int} {sep : ByteArray} {op : Int} {one : List Tk → Except Fl (Ex × List Tk)} (hp : Zer E one) : Zer E (manyE E sep op one) := fun ws h => by
  have a := listP_zer (sep := sep) hp 8 ws h
  unfold manyE
  generalize listP E sep one 8 ws = q at a ⊢
  rcases q with f | ⟨l, r⟩ <;> exact a
theorem daysP_zer {E : Int} {one : List Tk → Except Fl (Nd × List Tk)} (hp : Zer E one) : Zer E (daysP E one) := manyP_zer (manyP_zer hp)
theorem condP_zer {E : Int} {one : List Tk → Except Fl (Ex × List Tk)} (hp : Zer E one) : Zer E (condP E one) := manyE_zer (manyE_zer hp)
theorem notP_zer {E : Int} {q : Except Fl (Nd × List Tk)} (h : ZerR E q) : ZerR E (notP q) := by
  unfold notP; rcases q with f | ⟨l, r⟩ <;> exact h
theorem refP_zer {E : Int} {q : Except Fl (ByteArray × List Tk)} (h : ZerR E q) : ZerR E (refP q) := by
  unfold refP; rcases q with f | ⟨l, r⟩ <;> exact h
theorem notE_zer {E : Int} {q : Except Fl (Ex × List Tk)} (h : ZerR E q) : ZerR E (notE q) := by
  unfold notE; rcases q with f | ⟨l, r⟩ <;> exact h
theorem hasE_zer {E : Int} {q : Except Fl ((ByteArray × Int) × List Tk)} (h : ZerR E q) : ZerR E (hasE q) := by
  unfold hasE; rcases q with f | ⟨l, r⟩ <;> exact h
theorem twoP_zer {α β : Type} {E : Int} {p1 : List Tk → Except Fl (α × List Tk)} {p2 : List Tk → Except Fl (β × List Tk)} (h1 : Zer E p1) (h2 : Zer E p2) : Zer E (twoP p1 p2) := fun ws h => by
  have a := h1 ws h
  unfold twoP
  generalize p1 ws = q at a ⊢
  rcases q with f | ⟨x, r⟩
  · exact a
  · have b := h2 r a
    show ZerR E (match p2 r with | .error f => .error f | .ok (b, r2) => .ok ((x, b), r2))
    generalize p2 r = q at b ⊢
    rcases q with f | ⟨y, r2⟩ <;> exact b
theorem pairP_zer {E : Int} {p1 p2 : List Tk → Except Fl (Int × List Tk)} (h1 : Zer E p1) (h2 : Zer E p2) : Zer E (pairP E p1 p2) := fun ws h => by
  have a := thenP_zer (x := ⟨#[44]⟩) (h1 ws h)
  unfold pairP
  generalize thenP E ⟨#[44]⟩ (p1 ws) = q at a ⊢
  rcases q with f | ⟨x, r⟩
  · exact a
  · have b := h2 r a
    show ZerR E (match p2 r with | .error f => .error f | .ok (b, r2) => .ok ([x, b], r2))
    generalize p2 r = q at b ⊢
    rcases q with f | ⟨y, r2⟩ <;> exact b
theorem refWP_zer {E : Int} : Zer E (refWP E) := fun ws h => by
  have a := nameP_zer ws h
  unfold refWP
  generalize nameP E ws = q at a ⊢
  rcases q with f | ⟨n, r⟩
  · exact a
  · have ha : TkIn E r := a
    show ZerR E (if textF r = ⟨#[46]⟩ then (match choiceP E whenL r.tail with | .error f => .error f | .ok (i, r2) => .ok ((n, i), r2)) else .ok ((n, 0), r))
    split
    · have b := choiceP_zer (lits := whenL) r.tail ha.tail
      generalize choiceP E whenL r.tail = q at b ⊢
      rcases q with f | ⟨i, r2⟩ <;> exact b
    · exact ha
theorem workP_zer {E : Int} : Zer E (workP E) := fun ws h => by
  have a := thenP_zer (x := ⟨#[44]⟩) (intP_zer ws h)
  unfold workP
  generalize thenP E ⟨#[44]⟩ (intP E ws) = q at a ⊢
  rcases q with f | ⟨k, r⟩
  · exact a
  · have b := nameP_zer r a
    show ZerR E (match nameP E r with | .error f => .error f | .ok (n, r2) => .ok (Nd.mk 5 [k] [] n, r2))
    generalize nameP E r = q at b ⊢
    rcases q with f | ⟨n, r2⟩ <;> exact b
theorem dateP_zer {E : Int} : Zer E (dateP E) := fun ws h => by
  have a := wordP_zer (k := 2) ws h
  unfold dateP
  generalize wordP E 2 ws = q at a ⊢
  rcases q with f | ⟨t, r⟩
  · exact a
  · show ZerR E (if (DsCal.rdres t.text).2 = 0 then .ok ((DsCal.rdres t.text).1, r) else .error (atF E ws, 20))
    split
    · exact a
    · exact h.flz (by decide)
theorem datesP_zer {E : Int} : Zer E (datesP E) := fun ws h => by
  unfold datesP
  split
  · exact h
  · exact listP_zer dateP_zer 64 ws h
theorem numsP_zer {E op : Int} {q : Except Fl (List Int × List Tk)} (h : ZerR E q) : ZerR E (numsP op q) := by
  unfold numsP; rcases q with f | ⟨l, r⟩ <;> exact h
theorem weekP_zer {E : Int} : Zer E (weekP E) := fun ws h => by
  have a := listP_zer (sep := ⟨#[44]⟩) (choiceP_zer (E := E) (lits := weekL)) 8192 ws h
  unfold weekP
  generalize listP E ⟨#[44]⟩ (choiceP E weekL) 8192 ws = q at a ⊢
  rcases q with f | ⟨l, r⟩ <;> exact a
theorem bodyP_zer {E : Int} {x : ByteArray} : Zer E (bodyP E x) := fun ws h => by
  unfold bodyP
  split
  · exact weekP_zer ws h
  split
  · exact numsP_zer (datesP_zer ws h)
  split
  · exact numsP_zer (listP_zer intP_zer 64 ws h)
  split
  · exact numsP_zer (pairP_zer choiceP_zer intP_zer ws h)
  split
  · exact workP_zer ws h
  · exact numsP_zer (pairP_zer numP_zer numP_zer ws h)
theorem callP_zer {E : Int} : Zer E (callP E) := fun ws h => by
  have a := nameP_zer ws h
  unfold callP
  generalize nameP E ws = q at a ⊢
  rcases q with f | ⟨x, r⟩
  · exact a
  · have b := mustP_zer (x := ⟨#[40]⟩) (show TkIn E r from a)
    show ZerR E (match mustP E ⟨#[40]⟩ r with | .error f => .error f | .ok r1 => thenP E ⟨#[41]⟩ (bodyP E x r1))
    generalize mustP E ⟨#[40]⟩ r = q at b ⊢
    rcases q with f | r1
    · exact b
    · exact thenP_zer (bodyP_zer r1 b)
theorem oneStep_zer {E d : Int} {call one : List Tk → Except Fl (Nd × List Tk)} (hc : Zer E call) (ho : Zer E one) : Zer E (oneStep E d call one) := fun ws h => by
  unfold oneStep
  split
  · exact notP_zer (deepP_zer ho ws h)
  split
  · exact thenP_zer (deepP_zer (daysP_zer ho) ws h)
  split
  · exact hc ws h
  split
  · exact h.flz (by decide)
  · exact refP_zer (nameP_zer ws h)
theorem eachStep_zer {E d : Int} {one : List Tk → Except Fl (Ex × List Tk)} (ho : Zer E one) : Zer E (eachStep E d one) := fun ws h => by
  unfold eachStep
  split
  · exact notE_zer (deepP_zer ho ws h)
  split
  · exact thenP_zer (deepP_zer (condP_zer ho) ws h)
  split
  · exact h.flz (by decide)
  · exact hasE_zer (refWP_zer ws h)
theorem deep16 {α : Type} {E : Int} {part : List Tk → Except Fl (α × List Tk)} (ws : List Tk) : deepP E 16 part ws = .error (atF E ws, 23) := by
  unfold deepP
  rw [if_pos (by decide)]
theorem oneStep16_zer {E : Int} {call one : List Tk → Except Fl (Nd × List Tk)} (hc : Zer E call) : Zer E (oneStep E 16 call one) := fun ws h => by
  unfold oneStep
  rw [deep16, deep16]
  split
  · exact notP_zer (h.flz (by decide))
  split
  · exact thenP_zer (α := Nd) (h.flz (by decide))
  split
  · exact hc ws h
  split
  · exact h.flz (by decide)
  · exact refP_zer (nameP_zer ws h)
theorem eachStep16_zer {E : Int} {one : List Tk → Except Fl (Ex × List Tk)} : Zer E (eachStep E 16 one) := fun ws h => by
  unfold eachStep
  rw [deep16, deep16]
  split
  · exact notE_zer (h.flz (by decide))
  split
  · exact thenP_zer (α := Ex) (h.flz (by decide))
  split
  · exact h.flz (by decide)
  · exact hasE_zer (refWP_zer ws h)
theorem oneP_zer {E : Int} : ∀ k, Zer E (oneP E k)
  | 0 => oneStep16_zer callP_zer
  | k + 1 => oneStep_zer callP_zer (oneP_zer k)
theorem eachP_zer {E : Int} : ∀ k, Zer E (eachP E k)
  | 0 => eachStep16_zer
  | k + 1 => eachStep_zer (eachP_zer k)
theorem calP_zer {E : Int} : Zer E (calP E) := fun ws h => by
  have a := thenP_zer (x := ⟨#[61]⟩) (nameP_zer ws h)
  unfold calP
  generalize thenP E ⟨#[61]⟩ (nameP E ws) = q at a ⊢
  rcases q with f | ⟨n, r⟩
  · exact a
  · have b := daysP_zer (oneP_zer 16) r a
    show ZerR E (match daysP E (oneP E 16) r with | .error f => .error f | .ok (t, r2) => .ok ((n, t), r2))
    generalize daysP E (oneP E 16) r = q at b ⊢
    rcases q with f | ⟨t, r2⟩ <;> exact b
theorem updP_zer {α : Type} {E : Int} {f : α → Jb} {q : Except Fl (α × List Tk)} (h : ZerR E q) : ZerR E (updP f q) := by
  unfold updP; rcases q with f | ⟨l, r⟩ <;> exact h
theorem singleP_zer {E : Int} {x : Jb} : Zer E (singleP E x) := fun ws h => by
  have ht := h.tail
  unfold singleP
  split
  · exact updP_zer (thenP_zer (daysP_zer (oneP_zer 16) _ ht))
  split
  · exact updP_zer (thenP_zer (twoP_zer choiceP_zer (daysP_zer (oneP_zer 16)) _ ht))
  split
  · exact updP_zer (thenP_zer (twoP_zer timeP_zer timeP_zer _ ht))
  split
  · exact updP_zer (thenP_zer (condP_zer (eachP_zer 16) _ ht))
  split
  · exact updP_zer (thenP_zer (numP_zer _ ht))
  split
  · exact updP_zer (thenP_zer (numP_zer _ ht))
  split
  · exact updP_zer (thenP_zer (numP_zer _ ht))
  split
  · exact updP_zer (thenP_zer (numP_zer _ ht))
  split
  · exact updP_zer (thenP_zer (numP_zer _ ht))
  · exact h.flz (by decide)
theorem restP_zer {E k : Int} {S : List (Int × ByteArray)} {x : Jb} : Zer E (restP E k S x) := fun ws h => by
  unfold restP
  split
  · exact h.flz (by decide)
  · have a := singleP_zer (x := x) ws h
    generalize singleP E x ws = q at a ⊢
    rcases q with f | ⟨l, r⟩ <;> exact a
theorem outPP_zer {E : Int} {S : List (Int × ByteArray)} {x : Jb} {q : Except Fl (List Oc × List Tk)} (h : ZerR E q) : ZerR E (outPP S x q) := by
  unfold outPP; rcases q with f | ⟨l, r⟩ <;> exact h
theorem moreP_zer {α : Type} {E : Int} {S : List (Int × ByteArray)} {x : Jb} {f : α → Nv} {ws : List Tk} {q : Except Fl (α × List Tk)} (hw : TkIn E ws) (h : ZerR E q) : ZerR E (moreP E S x f ws q) := by
  have b := roomP_zer (a := x.needs.length) (m := 6) hw
  unfold moreP
  generalize roomP E ws x.needs.length 6 = u at b ⊢
  rcases u with e | u
  · exact b
  · rcases q with f | ⟨l, r⟩ <;> exact h
theorem partP_zer {E k : Int} {S : List (Int × ByteArray)} {x : Jb} : Zer E (partP E k S x) := fun ws h => by
  have ht := h.tail
  unfold partP
  split
  · exact outPP_zer (thenP_zer (listP_zer (twoP_zer choiceP_zer refWP_zer) _ _ ht))
  split
  · exact moreP_zer h (thenP_zer (twoP_zer nameP_zer numP_zer _ ht))
  split
  · exact moreP_zer h (thenP_zer (twoP_zer nameP_zer choiceP_zer _ ht))
  · exact restP_zer ws h
theorem partsP_zer {E k : Int} : ∀ (g : Nat) (S : List (Int × ByteArray)) (x : Jb) (ws : List Tk), TkIn E ws → ws.length < g → x.outs.length ≤ 8 → x.needs.length ≤ 6 → ZerR E (partsP E k g S x ws)
  | 0, S, x, ws, h, hg, _, _ => by omega
  | g + 1, S, x, ws, h, hg, h8, h6 => by
    unfold partsP
    split
    · exact h.tail
    · have a := partP_zer (k := k) (S := S) (x := x) ws h
      have b : ∀ x' S' r, partP E k S x ws = .ok ((x', S'), r) → r <:+ ws.tail ∧ ws ≠ [] ∧ x'.outs.length ≤ 8 ∧ x'.needs.length ≤ 6 := fun x' S' r e => by
        obtain ⟨b1, b2, b3, b4, _⟩ := partP_suf e h8 h6
        exact ⟨b1, b2, b3, b4⟩
      generalize partP E k S x ws = q at a b ⊢
      rcases q with f | ⟨⟨x', S'⟩, r⟩
      · exact a
      · obtain ⟨b1, b2, b3, b4⟩ := b x' S' r rfl
        have hl := b1.length_le
        have : 0 < ws.length := List.length_pos_iff.2 b2
        rw [List.length_tail] at hl
        exact partsP_zer g S' x' r a (by omega) b3 b4
theorem jobP_zer {E k : Int} {S : List (Int × ByteArray)} : Zer E (jobP E k S) := fun ws h => by
  have a := nameP_zer ws.tail h.tail
  unfold jobP
  generalize nameP E ws.tail = q at a ⊢
  rcases q with f | ⟨n, r⟩
  · exact a
  · have b := mustP_zer (x := ⟨#[123]⟩) (show TkIn E r from a)
    show ZerR E (match mustP E ⟨#[123]⟩ r with | .error f => .error f | .ok r1 => partsP E k (r1.length + 1) S (jb0 n) r1)
    generalize mustP E ⟨#[123]⟩ r = q at b ⊢
    rcases q with f | r1
    · exact b
    · exact partsP_zer _ S (jb0 n) r1 b (by omega) (by simp [jb0]) (by simp [jb0])
theorem onceP_zer {E : Int} {S : List (Int × ByteArray)} {ws : List Tk} {f : Int → Srcp} {q : Except Fl (Int × List Tk)} (hw : TkIn E ws) (h : ZerR E q) : ZerR E (onceP E S ws f q) := by
  unfold onceP
  split
  · exact hw.flz (by decide)
  · rcases q with f | ⟨l, r⟩ <;> exact h
theorem moreS_zer {α : Type} {E : Int} {S : List (Int × ByteArray)} {ws : List Tk} {k m : Int} {f : α → Srcp} {q : Except Fl (α × List Tk)} (hw : TkIn E ws) (h : ZerR E q) : ZerR E (moreS E S ws k m f q) := by
  have b := roomP_zer (a := k) (m := m) hw
  unfold moreS
  generalize roomP E ws k m = u at b ⊢
  rcases u with e | u
  · exact b
  · rcases q with f | ⟨l, r⟩ <;> exact h
theorem jobS_zer {E : Int} {S : List (Int × ByteArray)} {x : Srcp} {ws : List Tk} {q : Except Fl ((Jb × List (Int × ByteArray)) × List Tk)} (hw : TkIn E ws) (h : ZerR E q) : ZerR E (jobS E S x ws q) := by
  have b := roomP_zer (a := x.jobs.length) (m := 48) hw
  unfold jobS
  generalize roomP E ws x.jobs.length 48 = u at b ⊢
  rcases u with e | u
  · exact b
  · rcases q with f | ⟨l, r⟩ <;> exact h
theorem itemP_zer {E : Int} {S : List (Int × ByteArray)} {x : Srcp} : Zer E (itemP E S x) := fun ws h => by
  have ht := h.tail
  unfold itemP
  split
  · exact onceP_zer h (thenP_zer (timeP_zer _ ht))
  split
  · exact onceP_zer h (thenP_zer (numP_zer _ ht))
  split
  · exact moreS_zer h (thenP_zer (calP_zer _ ht))
  split
  · exact moreS_zer h (thenP_zer (twoP_zer nameP_zer numP_zer _ ht))
  split
  · exact moreS_zer h (thenP_zer (nameP_zer _ ht))
  split
  · exact jobS_zer h (jobP_zer ws h)
  · exact h.flz (by decide)
theorem itemsP_zer {E : Int} : ∀ (g : Nat) (S : List (Int × ByteArray)) (x : Srcp) (ws : List Tk), TkIn E ws → ws.length < g → ∀ f, itemsP E g S x ws = .error f → FlZ E f
  | 0, S, x, ws, h, hg, f, e => by omega
  | g + 1, S, x, ws, h, hg, f, e => by
    unfold itemsP at e
    split at e
    · cases e
    · have a := itemP_zer (S := S) (x := x) ws h
      have b : ∀ x' S' r, itemP E S x ws = .ok ((x', S'), r) → r <:+ ws.tail ∧ ws ≠ [] := fun x' S' r e => by
        obtain ⟨b1, b2, _⟩ := itemP_suf e
        exact ⟨b1, b2⟩
      generalize itemP E S x ws = q at a b e
      rcases q with f' | ⟨⟨x', S'⟩, r⟩
      · cases e; exact a
      · obtain ⟨b1, b2⟩ := b x' S' r rfl
        have hl := b1.length_le
        have : 0 < ws.length := List.length_pos_iff.2 b2
        rw [List.length_tail] at hl
        exact itemsP_zer g S' x' r a (by omega) f e
theorem sourceP_zer {E : Int} {ws : List Tk} (h : TkIn E ws) {f : Fl} (e : sourceP E ws = .error f) : FlZ E f := by
  unfold sourceP at e
  have a := itemsP_zer (E := E) (ws.length + 1) [] src0 ws h (by omega)
  generalize itemsP E (ws.length + 1) [] src0 ws = q at a e
  rcases q with f' | ⟨p, r⟩
  · cases e; exact a f rfl
  · cases e
theorem parse_fl0 {s : ByteArray} {f : Fl} (h : parseP s = .error f) : f.2 ≠ 0 := by
  unfold parseP at h
  by_cases h0 : (tokensF s).2.2 = 0
  · rw [if_pos h0] at h
    refine sourceP_zer (E := (s.size : Int)) (ws := (tokensF s).1) ⟨Int.natCast_nonneg _, fun t ht => ?_⟩ h
    have := (toks_in h0 t ht).1
    exact Int.ofNat_le.2 this
  · rw [if_neg h0] at h
    cases h
    exact h0
end Go.Proofs.YtkpgfhapffijkaaGreatDoor
