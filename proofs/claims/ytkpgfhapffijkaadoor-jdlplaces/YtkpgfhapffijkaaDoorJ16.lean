/- Some parts of the proof, one behind the other. -/
import Derived.Test.YtkpgfhapffijkaaDoorJdV
/- Package jdl: days, whole. -/
namespace Go.Proofs.YtkpgfhapffijkaaDoor
open Go.ChangeShapes Go.WideShapes Go.ChangeAt Go.RowKit Go.DsMem Go.DsLx Go.DsJd Go.DsMk
set_option linter.unusedVariables false
def bodyP (E : Int) (x : ByteArray) (r : List Tk) : Except Fl (Nd × List Tk) :=
  if x = ⟨#[119, 101, 101, 107]⟩ then weekP E r
  else if x = ⟨#[100, 97, 116, 101, 115]⟩ then numsP 2 (datesP E r)
  else if x = ⟨#[109, 111, 110, 116, 104]⟩ then numsP 3 (listP E ⟨#[44]⟩ (intP E) 64 r)
  else if x = ⟨#[110, 116, 104]⟩ then numsP 4 (pairP E (choiceP E weekL) (intP E) r)
  else if x = ⟨#[119, 111, 114, 107]⟩ then workP E r
  else numsP 6 (pairP E (numP E) (numP E) r)
def callP (E : Int) (ws : List Tk) : Except Fl (Nd × List Tk) :=
  match nameP E ws with
  | .error f => .error f
  | .ok (x, r) => match mustP E ⟨#[40]⟩ r with
    | .error f => .error f
    | .ok r1 => thenP E ⟨#[41]⟩ (bodyP E x r1)
theorem nameP_text {E : Int} {ws : List Tk} {x : ByteArray} {r : List Tk} (h : nameP E ws = .ok (x, r)) : x = textF ws := by
  cases ws with
  | nil => simp [nameP, wordP] at h
  | cons u r' =>
    unfold nameP wordP at h
    by_cases hk : u.kind = 1
    · simp [hk] at h
      exact h.1.symm
    · simp [hk] at h
theorem numsP_suf {op : Int} {p : Except Fl (List Int × List Tk)} {ws : List Tk} {a : Nd} {r : List Tk} (hp : ∀ l r, p = .ok (l, r) → r <:+ ws) (h : numsP op p = .ok (a, r)) : r <:+ ws := by
  unfold numsP at h
  split at h
  · cases h
  · cases h; exact hp _ _ rfl
theorem pairP_suf {E : Int} {p1 p2 : List Tk → Except Fl (Int × List Tk)} (h1 : ∀ ws a r, p1 ws = .ok (a, r) → r <:+ ws) (h2 : ∀ ws a r, p2 ws = .ok (a, r) → r <:+ ws) {ws : List Tk} {l : List Int} {r : List Tk} (h : pairP E p1 p2 ws = .ok (l, r)) : r <:+ ws := by
  unfold pairP at h
  split at h
  · cases h
  · rename_i a r1 e1
    split at h
    · cases h
    · rename_i b r2 e2
      cases h
      exact (h2 _ _ _ e2).trans (thenP_suf (fun a r h => h1 _ _ _ h) e1)
theorem bodyP_suf {E : Int} {x : ByteArray} {ws : List Tk} {a : Nd} {r : List Tk} (h : bodyP E x ws = .ok (a, r)) : r <:+ ws := by
  unfold bodyP at h
  split at h
  · unfold weekP at h
    split at h
    · cases h
    · rename_i l r2 e
      cases h
      exact listP_suf (fun ws a r h => (choiceP_suf h).1) _ _ _ _ e
  · split at h
    · refine numsP_suf (fun l r e => ?_) h
      unfold datesP at e
      split at e
      · cases e; exact List.suffix_refl _
      · exact listP_suf (fun ws a r h => dateP_suf h) _ _ _ _ e
    · split at h
      · exact numsP_suf (fun l r e => listP_suf (fun ws a r h => intP_suf h) _ _ _ _ e) h
      · split at h
        · exact numsP_suf (fun l r e => pairP_suf (fun ws a r h => (choiceP_suf h).1) (fun ws a r h => intP_suf h) e) h
        · split at h
          · exact workP_suf h
          · exact numsP_suf (fun l r e => pairP_suf (fun ws a r h => numP_suf h) (fun ws a r h => numP_suf h) e) h
theorem callP_suf {E : Int} {ws : List Tk} {a : Nd} {r : List Tk} (h : callP E ws = .ok (a, r)) : r <:+ ws := by
  unfold callP at h
  split at h
  · cases h
  · rename_i x r1 e1
    split at h
    · cases h
    · rename_i r2 e2
      exact (thenP_suf (fun a r h => bodyP_suf h) h).trans ((mustP_suf e2).trans (nameP_suf e1))
set_option maxHeartbeats 4000000 in
set_option maxRecDepth 20000 in
theorem call_bad {w : World} {R : Nat} {E d : Int} {B N : Nat} {ws : List Tk} (h : Rdr w R E d B N ws) (f : Fl) (hf : nameP E ws = .error f ∨ ∃ x r, nameP E ws = .ok (x, r) ∧ mustP E ⟨#[40]⟩ r = .error f) :
    Calls Tryd.prog 73 #[.pointer (some ⟨R, 0, none⟩)] w (PE R E d B N (.error f : Except Fl (Nd × List Tk)) VN w) := by
  have HN : Hid (∀ o, Calls Tryd.prog 45 #[.pointer (some ⟨R, 0, none⟩)] (w.alloc o) (PE R E d B N (nameP E ws) VS (w.alloc o))) := fun o => name_any (h.below (below_new4 o))
  have HM := hide (fun (w : World) (r : List Tk) (h : Rdr w R E d B N r) => must_any ⟨#[40]⟩ h (by decide))
  have HOA : Hid (Only (· = R) w (w.alloc (.cells #[.int .i64 0, .slice none 0 0, .slice none 0 0, .string ⟨#[]⟩] 41))) := Only.alloc _ _ _
  clear h
  unfold PE Ends
  simp only
  rcases hf with hf | ⟨x, r, hx, hm⟩
  · rw [hf] at HN
    unfold PE Ends at HN
    simp only at HN
    go_enter Tryd.func73, Tryd.ntmps73
    go_wp2_with fail
    refine (HN.out _).mono ?_
    rintro e w1 ⟨rfl, ho⟩
    have HO := hide (HOA.out.trans ho (fun _ _ h => h))
    clear ho
    go_wp2
    exact ⟨rfl, rfl, HO.out⟩
  · rw [hx] at HN
    have HM2 := hide (fun w h => HM.out w r h)
    rw [hm] at HM2
    unfold PE Ends VS at HN
    unfold Ends at HM2
    simp only at HN HM2
    go_enter Tryd.func73, Tryd.ntmps73
    go_wp2_with fail
    refine (HN.out _).mono ?_
    rintro e w1 ⟨v, rfl, rfl, hr, ho⟩
    have HO := hide (HOA.out.trans ho (fun _ _ h => h))
    have HR := hide hr
    clear ho hr
    go_wp2_with fail
    refine (HM2.out _ HR.out).mono ?_
    rintro e w2 ⟨rfl, ho2⟩
    have HO2 := hide (HO.out.trans ho2 (fun _ _ h => h))
    clear ho2
    go_wp2
    exact ⟨rfl, rfl, HO2.out⟩
/-- (*jdl.reader).call -/
theorem call_any {w : World} {R : Nat} {E d : Int} {B N : Nat} {ws : List Tk} (h : Rdr w R E d B N ws) (hG : Few9 ws) (hc : isCall (textF ws)) :
    Calls Tryd.prog 73 #[.pointer (some ⟨R, 0, none⟩)] w (PE R E d B N (callP E ws) VN w) := by
  cases hx : nameP E ws with
  | error f =>
    have e : callP E ws = .error f := by unfold callP; rw [hx]
    rw [e]
    exact call_bad h f (.inl hx)
  | ok p =>
    obtain ⟨x, r⟩ := p
    cases hm : mustP E ⟨#[40]⟩ r with
    | error f =>
      have e : callP E ws = .error f := by unfold callP; rw [hx]; simp only; rw [hm]
      rw [e]
      exact call_bad h f (.inr ⟨x, r, hx, hm⟩)
    | ok r1 =>
      have e : callP E ws = thenP E ⟨#[41]⟩ (bodyP E x r1) := by unfold callP; rw [hx]; simp only; rw [hm]
      have hxt := nameP_text hx
      have hG1 : Few9 r1 := hG.suf ((mustP_suf hm).trans (nameP_suf hx))
      rw [e]
      rw [← hxt] at hc
      clear e hxt
      rcases hc with rfl | rfl | rfl | rfl | rfl | rfl
      · exact call_week h hG1 hx hm
      · exact call_dates h hG1 hx hm
      · exact call_month h hG1 hx hm
      · exact call_nth h hG1 hx hm
      · exact call_work h hG1 hx hm
      · exact call_fiscal h hG1 hx hm
/-- one of the days, k brackets more at most -/
def oneP (E : Int) : Nat → List Tk → Except Fl (Nd × List Tk)
  | 0, ws => oneStep E 16 (callP E) (fun _ => .error (0, 0)) ws
  | k + 1, ws => oneStep E (15 - k) (callP E) (oneP E k) ws
theorem oneStep_suf {E d : Int} {call one : List Tk → Except Fl (Nd × List Tk)} (hc : ∀ ws a r, call ws = .ok (a, r) → r <:+ ws) (ho : ∀ ws a r, one ws = .ok (a, r) → r <:+ ws) {ws : List Tk} {a : Nd} {r : List Tk} (h : oneStep E d call one ws = .ok (a, r)) : r <:+ ws := by
  unfold oneStep at h
  split at h
  · unfold notP at h
    split at h
    · cases h
    · rename_i b r2 e
      cases h
      unfold deepP at e
      split at e
      · cases e
      · exact (ho _ _ _ e).trans (List.tail_suffix _)
  · split at h
    · refine thenP_suf (fun a r e => ?_) h
      unfold deepP at e
      split at e
      · cases e
      · exact (manyP_suf (manyP_suf ho) _ _ _ e).trans (List.tail_suffix _)
    · split at h
      · exact hc _ _ _ h
      · split at h
        · cases h
        · unfold refP at h
          split at h
          · cases h
          · rename_i n r2 e
            cases h
            exact nameP_suf e
theorem oneP_suf {E : Int} : ∀ (k : Nat) (ws : List Tk) (a : Nd) (r : List Tk), oneP E k ws = .ok (a, r) → r <:+ ws
  | 0, ws, a, r, h => oneStep_suf (fun _ _ _ h => callP_suf h) (fun _ _ _ h => by cases h) h
  | k + 1, ws, a, r, h => oneStep_suf (fun _ _ _ h => callP_suf h) (oneP_suf k) h
theorem few_n {p : List Tk → Except Fl (Nd × List Tk)} (hp : ∀ ws a r, p ws = .ok (a, r) → r <:+ ws) (ws : List Tk) (a : Nd) (r : List Tk) (h : Few9 ws) (e : p ws = .ok (a, r)) : Few9 r ∧ Few9 r.tail :=
  ⟨h.suf (hp _ _ _ e), h.suf ((List.tail_suffix _).trans (hp _ _ _ e))⟩
/-- (*jdl.reader).oneDays at any depth -/
theorem one_all {R : Nat} {E : Int} {B N : Nat} : ∀ (k : Nat), k ≤ 16 → ∀ (w : World) (ws : List Tk), Few9 ws → Rdr w R E (16 - k) B N ws → Calls Tryd.prog 60 #[.pointer (some ⟨R, 0, none⟩)] w (PE R E (16 - k) B N (oneP E k ws) VN w)
  | 0, _, w, ws, hG, h => by
    have e : oneP E 0 ws = oneStep E (16 - (0 : Nat)) (callP E) (fun _ => .error (0, 0)) ws := rfl
    rw [e]
    exact oneDays_any h (by decide) (by decide) (callP E) _ Few9 hG (fun ws h => h.suf (List.tail_suffix _)) (few_n (fun _ _ _ h => by cases h)) (few_n (manyP_suf (fun _ _ _ h => by cases h))) (fun hc w h => call_any h hG hc) (fun hd => by simp at hd)
  | k + 1, hk, w, ws, hG, h => by
    have e : oneP E (k + 1) ws = oneStep E (16 - ((k + 1 : Nat) : Int)) (callP E) (oneP E k) ws := by
      show oneStep E (15 - k) _ _ ws = _
      rw [show (16 : Int) - ((k + 1 : Nat) : Int) = 15 - k by omega]
    rw [e]
    refine oneDays_any h (by omega) (by omega) (callP E) _ Few9 hG (fun ws h => h.suf (List.tail_suffix _)) (few_n (oneP_suf k)) (few_n (manyP_suf (oneP_suf k))) (fun hc w h => call_any h hG hc) (fun _ w ws hG h => ?_)
    have e2 : (16 : Int) - ((k + 1 : Nat) : Int) + 1 = 16 - k := by omega
    rw [e2] at h ⊢
    exact one_all k (by omega) w ws hG h
/-- (*jdl.reader).days outside of brackets -/
theorem days_all {R : Nat} {E : Int} {B N : Nat} {w : World} {ws : List Tk} (hG : Few9 ws) (h : Rdr w R E 0 B N ws) : Calls Tryd.prog 46 #[.pointer (some ⟨R, 0, none⟩)] w (PE R E 0 B N (daysP E (oneP E 16) ws) VN w) :=
  days_any h (manyP E sAnd 7 (oneP E 16)) Few9 hG (few_n (manyP_suf (oneP_suf 16))) (fun w ws hG h => bothDays_any h (oneP E 16) Few9 hG (few_n (oneP_suf 16)) (fun w ws hG h => one_all 16 (Nat.le_refl _) w ws hG h))
end Go.Proofs.YtkpgfhapffijkaaDoor

/- Package jdl: conditions, whole. -/
namespace Go.Proofs.YtkpgfhapffijkaaDoor
open Go.ChangeShapes Go.WideShapes Go.ChangeAt Go.RowKit Go.DsMem Go.DsLx Go.DsJd Go.DsMk
set_option linter.unusedVariables false
theorem refWP_suf {E : Int} {ws : List Tk} {a : ByteArray × Int} {r : List Tk} (h : refWP E ws = .ok (a, r)) : r <:+ ws := by
  unfold refWP at h
  split at h
  · cases h
  · rename_i n r1 e1
    split at h
    · split at h
      · cases h
      · rename_i i r2 e2
        cases h
        exact ((choiceP_suf e2).1.trans (List.tail_suffix _)).trans (nameP_suf e1)
    · cases h; exact nameP_suf e1
/-- one of the conditions, k brackets more at most -/
def eachP (E : Int) : Nat → List Tk → Except Fl (Ex × List Tk)
  | 0, ws => eachStep E 16 (fun _ => .error (0, 0)) ws
  | k + 1, ws => eachStep E (15 - k) (eachP E k) ws
theorem eachStep_suf {E d : Int} {one : List Tk → Except Fl (Ex × List Tk)} (ho : ∀ ws a r, one ws = .ok (a, r) → r <:+ ws) {ws : List Tk} {a : Ex} {r : List Tk} (h : eachStep E d one ws = .ok (a, r)) : r <:+ ws := by
  unfold eachStep at h
  split at h
  · unfold notE at h
    split at h
    · cases h
    · rename_i b r2 e
      cases h
      unfold deepP at e
      split at e
      · cases e
      · exact (ho _ _ _ e).trans (List.tail_suffix _)
  · split at h
    · refine thenP_suf (fun a r e => ?_) h
      unfold deepP at e
      split at e
      · cases e
      · exact (manyE_suf (manyE_suf ho) _ _ _ e).trans (List.tail_suffix _)
    · split at h
      · cases h
      · unfold hasE at h
        split at h
        · cases h
        · rename_i n r2 e
          cases h
          exact refWP_suf e
theorem eachP_suf {E : Int} : ∀ (k : Nat) (ws : List Tk) (a : Ex) (r : List Tk), eachP E k ws = .ok (a, r) → r <:+ ws
  | 0, ws, a, r, h => eachStep_suf (fun _ _ _ h => by cases h) h
  | k + 1, ws, a, r, h => eachStep_suf (eachP_suf k) h
theorem few_e {p : List Tk → Except Fl (Ex × List Tk)} (hp : ∀ ws a r, p ws = .ok (a, r) → r <:+ ws) (ws : List Tk) (a : Ex) (r : List Tk) (h : Few9 ws) (e : p ws = .ok (a, r)) : Few9 r ∧ Few9 r.tail :=
  ⟨h.suf (hp _ _ _ e), h.suf ((List.tail_suffix _).trans (hp _ _ _ e))⟩
/-- (*jdl.reader).eachCond at any depth -/
theorem each_all {R : Nat} {E : Int} {B N : Nat} : ∀ (k : Nat), k ≤ 16 → ∀ (w : World) (ws : List Tk), Few9 ws → Rdr w R E (16 - k) B N ws → Calls Tryd.prog 86 #[.pointer (some ⟨R, 0, none⟩)] w (PE R E (16 - k) B N (eachP E k ws) VE w)
  | 0, _, w, ws, hG, h => by
    have e : eachP E 0 ws = eachStep E (16 - (0 : Nat)) (fun _ => .error (0, 0)) ws := rfl
    rw [e]
    exact eachCond_any h (by decide) (by decide) _ Few9 hG (fun ws h => h.suf (List.tail_suffix _)) (few_e (fun _ _ _ h => by cases h)) (few_e (manyE_suf (fun _ _ _ h => by cases h))) (fun hd => by simp at hd)
  | k + 1, hk, w, ws, hG, h => by
    have e : eachP E (k + 1) ws = eachStep E (16 - ((k + 1 : Nat) : Int)) (eachP E k) ws := by
      show eachStep E (15 - k) _ ws = _
      rw [show (16 : Int) - ((k + 1 : Nat) : Int) = 15 - k by omega]
    rw [e]
    refine eachCond_any h (by omega) (by omega) _ Few9 hG (fun ws h => h.suf (List.tail_suffix _)) (few_e (eachP_suf k)) (few_e (manyE_suf (eachP_suf k))) (fun _ w ws hG h => ?_)
    have e2 : (16 : Int) - ((k + 1 : Nat) : Int) + 1 = 16 - k := by omega
    rw [e2] at h ⊢
    exact each_all k (by omega) w ws hG h
/-- (*jdl.reader).cond outside of brackets -/
theorem cond_all {R : Nat} {E : Int} {B N : Nat} {w : World} {ws : List Tk} (hG : Few9 ws) (h : Rdr w R E 0 B N ws) : Calls Tryd.prog 70 #[.pointer (some ⟨R, 0, none⟩)] w (PE R E 0 B N (condP E (eachP E 16) ws) VE w) :=
  cond_any h (manyE E sAnd 2 (eachP E 16)) Few9 hG (few_e (manyE_suf (eachP_suf 16))) (fun w ws hG h => allConds_any h (eachP E 16) Few9 hG (few_e (eachP_suf 16)) (fun w ws hG h => each_all 16 (Nat.le_refl _) w ws hG h))
end Go.Proofs.YtkpgfhapffijkaaDoor

/- Plain: the numbers of words are small. -/
namespace Go.Proofs.YtkpgfhapffijkaaDoor
open Go.ChangeShapes Go.WideShapes Go.ChangeAt Go.RowKit Go.DsMem Go.DsLx Go.DsJd Go.DsMk
set_option linter.unusedVariables false
theorem tm_bd (s : ByteArray) : 0 ≤ (DsCal.tmres s).1 ∧ (DsCal.tmres s).1 ≤ 1439 := by
  unfold DsCal.tmres
  split
  · rename_i h5
    have h1 := DsCal.tdres_bd (s.extract 0 2) (by rw [ByteArray.size_extract]; omega)
    have h2 := DsCal.tdres_bd (s.extract 3 s.size) (by rw [ByteArray.size_extract]; omega)
    unfold DsCal.tmOf
    split
    · split
      · rename_i a b; simp only; omega
      · simp only; omega
    · simp only; omega
  · simp only; omega
theorem rdF_n {s : ByteArray} {k : Nat} (hk : k < s.size) : 0 ≤ (rdF s k).1.n ∧ (rdF s k).1.n ≤ 999999999 := by
  unfold rdF readF
  split
  · unfold nameF; split <;> simp [tk0]
  · split
    · unfold numF
      split
      · simp [tk0]
      · rename_i c
        have hb := endE_bd DsLx.dgB s k (by omega)
        have h9 : endE DsLx.dgB s k - k ≤ 9 := by omega
        have := numV_bd (s := s) (k := k) (endE DsLx.dgB s k - k) h9 (fun j hj => runE_all _ k (k + j) (by omega) (show k + j < endE DsLx.dgB s k by omega))
        simp only
        have h10 : (10 ^ (endE DsLx.dgB s k - k) : Nat) ≤ 10 ^ 9 := Nat.pow_le_pow_right (by decide) h9
        have : (10 : Nat) ^ 9 = 1000000000 := by decide
        omega
    · split
      · unfold timeF
        split
        · simp [tk0]
        · have := tm_bd (s.extract k (min (k + 5) s.size))
          simp only; omega
      · split <;> simp [tk0]
theorem tokG_few (s : ByteArray) : ∀ (f k : Nat) (acc : List Tk), Few9 acc → Few9 (tokG s f k acc).1
  | 0, _, _, h => h
  | f + 1, k, acc, h => by
    rw [tokG]
    split
    · rename_i c
      split
      · refine tokG_few s f _ _ ?_
        intro t ht
        rcases List.mem_append.1 ht with a | a
        · exact h t a
        · simp only [List.mem_cons, List.not_mem_nil, or_false] at a
          subst a
          exact rdF_n c
      · intro t ht; simp at ht
    · exact h
/-- the words of any source -/
theorem tokens_few9 (s : ByteArray) : Few9 (tokensF s).1 := by
  unfold tokensF
  split
  · intro t ht; simp at ht
  · exact tokG_few s _ _ _ (fun t ht => by simp at ht)
end Go.Proofs.YtkpgfhapffijkaaDoor

