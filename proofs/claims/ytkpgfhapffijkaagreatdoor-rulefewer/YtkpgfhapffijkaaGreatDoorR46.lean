/- Computable twins of what Parse reads; what known of layer 8 asks. -/
import Derived.Test.YtkpgfhapffijkaaGreatDoorR44
namespace Go.Proofs.YtkpgfhapffijkaaGreatDoor
open Go.DsLx Go.DsJd Go.DsMk
set_option linter.unusedVariables false
def memQ (p : Int × ByteArray) (S : List (Int × ByteArray)) : Bool := S.any (fun q => decide (q.1 = p.1 ∧ q.2 = p.2))
theorem memQ_iff {p : Int × ByteArray} {S : List (Int × ByteArray)} : memQ p S = true ↔ p ∈ S := by
  unfold memQ
  rw [List.any_eq_true]
  constructor
  · rintro ⟨q, hq, h⟩
    have h := of_decide_eq_true h
    obtain ⟨a, b⟩ := q
    obtain ⟨c, d⟩ := p
    simp only at h
    rw [← h.1, ← h.2]; exact hq
  · exact fun h => ⟨p, h, by simp⟩
def restQ (E : Int) (k : Int) (S : List (Int × ByteArray)) (x : Jb) (ws : List Tk) : Except Fl ((Jb × List (Int × ByteArray)) × List Tk) :=
  if memQ (k, textF ws) S = true then .error (atF E ws, 22) else match singleP E x ws with | .error f => .error f | .ok (x', r) => .ok ((x', (k, textF ws) :: S), r)
theorem restQ_eq {E k : Int} {S : List (Int × ByteArray)} {x : Jb} {ws : List Tk} : restP E k S x ws = restQ E k S x ws := by
  unfold restP restQ
  by_cases h : (k, textF ws) ∈ S
  · rw [if_pos h, if_pos (memQ_iff.2 h)]
  · rw [if_neg h, if_neg (fun e => h (memQ_iff.1 e))]; rfl
def partQ (E : Int) (k : Int) (S : List (Int × ByteArray)) (x : Jb) (ws : List Tk) : Except Fl ((Jb × List (Int × ByteArray)) × List Tk) :=
  if textF ws = wOut then outPP S x (thenP E ⟨#[59]⟩ (outsP E (8 - x.outs.length) ws.tail))
  else if textF ws = wNeed then moreP E S x (fun p => (p.1, (p.2, 0))) ws (thenP E ⟨#[59]⟩ (twoP (nameP E) (numP E) ws.tail))
  else if textF ws = wUse then moreP E S x (fun p => (p.1, (0, p.2 + 1))) ws (thenP E ⟨#[59]⟩ (twoP (nameP E) (choiceP E modeL) ws.tail))
  else restQ E k S x ws
theorem partQ_eq {E k : Int} {S : List (Int × ByteArray)} {x : Jb} {ws : List Tk} : partP E k S x ws = partQ E k S x ws := by
  unfold partP partQ
  rw [restQ_eq]
def partsQ (E : Int) (k : Int) : Nat → List (Int × ByteArray) → Jb → List Tk → Except Fl ((Jb × List (Int × ByteArray)) × List Tk)
  | 0, _, _, _ => .error (0, 0)
  | g + 1, S, x, ws => if textF ws = ⟨#[125]⟩ then .ok ((x, S), ws.tail) else match partQ E k S x ws with | .error f => .error f | .ok (p, r) => partsQ E k g p.2 p.1 r
theorem partsQ_eq {E k : Int} : ∀ (g : Nat) (S : List (Int × ByteArray)) (x : Jb) (ws : List Tk), partsP E k g S x ws = partsQ E k g S x ws
  | 0, _, _, _ => rfl
  | g + 1, S, x, ws => by
    unfold partsP partsQ
    rw [partQ_eq]
    split
    · rfl
    · generalize partQ E k S x ws = q
      rcases q with f | ⟨p, r⟩
      · rfl
      · exact partsQ_eq g _ _ _
def jobQ (E : Int) (k : Int) (S : List (Int × ByteArray)) (ws : List Tk) : Except Fl ((Jb × List (Int × ByteArray)) × List Tk) :=
  match nameP E ws.tail with
  | .error f => .error f
  | .ok (n, r) => match mustP E ⟨#[123]⟩ r with
    | .error f => .error f
    | .ok r1 => partsQ E k (r1.length + 1) S (jb0 n) r1
theorem jobQ_eq {E k : Int} {S : List (Int × ByteArray)} {ws : List Tk} : jobP E k S ws = jobQ E k S ws := by
  unfold jobP jobQ
  generalize nameP E ws.tail = q
  rcases q with f | ⟨n, r⟩
  · rfl
  · dsimp only
    generalize mustP E ⟨#[123]⟩ r = q
    rcases q with f | r1
    · rfl
    · exact partsQ_eq _ _ _ _
def onceQ (E : Int) (S : List (Int × ByteArray)) (ws : List Tk) (f : Int → Srcp) (q : Except Fl (Int × List Tk)) : Except Fl ((Srcp × List (Int × ByteArray)) × List Tk) :=
  if memQ (0, textF ws) S = true then .error (atF E ws, 22) else match q with | .error e => .error e | .ok (a, r) => .ok ((f a, (0, textF ws) :: S), r)
theorem onceQ_eq {E : Int} {S : List (Int × ByteArray)} {ws : List Tk} {f : Int → Srcp} {q : Except Fl (Int × List Tk)} : onceP E S ws f q = onceQ E S ws f q := by
  unfold onceP onceQ
  by_cases h : (0, textF ws) ∈ S
  · rw [if_pos h, if_pos (memQ_iff.2 h)]
  · rw [if_neg h, if_neg (fun e => h (memQ_iff.1 e))]; rfl
def jobSQ (E : Int) (S : List (Int × ByteArray)) (x : Srcp) (ws : List Tk) (q : Except Fl ((Jb × List (Int × ByteArray)) × List Tk)) : Except Fl ((Srcp × List (Int × ByteArray)) × List Tk) :=
  match roomP E ws x.jobs.length 48 with
  | .error f => .error f
  | .ok _ => match q with | .error f => .error f | .ok (p, r) => .ok (({ x with jobs := x.jobs ++ [p.1] }, p.2), r)
theorem jobSQ_eq {E : Int} {S : List (Int × ByteArray)} {x : Srcp} {ws : List Tk} {q : Except Fl ((Jb × List (Int × ByteArray)) × List Tk)} : jobS E S x ws q = jobSQ E S x ws q := rfl
def itemQ (E : Int) (S : List (Int × ByteArray)) (x : Srcp) (ws : List Tk) : Except Fl ((Srcp × List (Int × ByteArray)) × List Tk) :=
  if textF ws = wBegin then onceQ E S ws (fun a => { x with start := a }) (thenP E ⟨#[59]⟩ (timeP E ws.tail))
  else if textF ws = wKeep then onceQ E S ws (fun a => { x with keep := a }) (thenP E ⟨#[59]⟩ (numP E ws.tail))
  else if textF ws = wCal then moreS E S ws x.cals.length 24 (fun a => { x with cals := x.cals ++ [a] }) (thenP E ⟨#[59]⟩ (calP E ws.tail))
  else if textF ws = wRes then moreS E S ws x.res.length 12 (fun p => { x with res := x.res ++ [(p.1, (p.2, false))] }) (thenP E ⟨#[59]⟩ (twoP (nameP E) (numP E) ws.tail))
  else if textF ws = wLock then moreS E S ws x.res.length 12 (fun p => { x with res := x.res ++ [(p, (0, true))] }) (thenP E ⟨#[59]⟩ (nameP E ws.tail))
  else if textF ws = wJob then jobSQ E S x ws (jobQ E (x.jobs.length + 1) S ws)
  else .error (atF E ws, 20)
theorem itemQ_eq {E : Int} {S : List (Int × ByteArray)} {x : Srcp} {ws : List Tk} : itemP E S x ws = itemQ E S x ws := by
  unfold itemP itemQ
  rw [onceQ_eq, onceQ_eq, jobSQ_eq, jobQ_eq]
def itemsQ (E : Int) : Nat → List (Int × ByteArray) → Srcp → List Tk → Except Fl (Srcp × List (Int × ByteArray))
  | 0, _, _, _ => .error (0, 0)
  | g + 1, S, x, ws => match ws with
    | [] => .ok (x, S)
    | t :: l => match itemQ E S x (t :: l) with | .error f => .error f | .ok (p, r) => itemsQ E g p.2 p.1 r
theorem itemsQ_eq {E : Int} : ∀ (g : Nat) (S : List (Int × ByteArray)) (x : Srcp) (ws : List Tk), itemsP E g S x ws = itemsQ E g S x ws
  | 0, _, _, _ => rfl
  | g + 1, S, x, ws => by
    unfold itemsP itemsQ
    cases ws with
    | nil => rfl
    | cons t l =>
      rw [if_neg (by simp), itemQ_eq]
      dsimp only
      generalize itemQ E S x (t :: l) = q
      rcases q with f | ⟨p, r⟩
      · rfl
      · exact itemsQ_eq g _ _ _
def sourceQ (E : Int) (ws : List Tk) : Except Fl Srcp := match itemsQ E (ws.length + 1) [] src0 ws with | .error f => .error f | .ok (x, _) => .ok x
def parseQ (s : ByteArray) : Except Fl Srcp := if (tokensF s).2.2 = 0 then sourceQ s.size (tokensF s).1 else .error (((tokensF s).2.1 : Int), (tokensF s).2.2)
theorem parseQ_eq (s : ByteArray) : parseP s = parseQ s := by
  unfold parseP parseQ sourceP sourceQ
  rw [itemsQ_eq]
  rfl
def okS (p : Srcp → Bool) : Except Fl Srcp → Bool
  | .error _ => false
  | .ok x => p x
theorem okS_of {p : Srcp → Bool} {s : ByteArray} (h : okS p (parseQ s) = true) : ∃ x, parseP s = .ok x ∧ p x = true := by
  rw [parseQ_eq]
  generalize parseQ s = q at h
  rcases q with f | x
  · cases h
  · exact ⟨x, rfl, h⟩
end Go.Proofs.YtkpgfhapffijkaaGreatDoor
