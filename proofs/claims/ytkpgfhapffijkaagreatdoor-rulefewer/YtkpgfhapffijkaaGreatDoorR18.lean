/- Package jdl: days, whole. -/
import Derived.Test.YtkpgfhapffijkaaGreatDoorR17
namespace Go.Proofs.YtkpgfhapffijkaaGreatDoor
open Go.ChangeShapes Go.WideShapes Go.ChangeAt Go.RowKit Go.DsMem Go.DsLx Go.DsJd Go.DsMk
set_option linter.unusedVariables false
def bodyP (E : Int) (x : ByteArray) (r : List Tk) : Except Fl (Nd × List Tk) :=
  if x = ⟨#[119, 101, 101, 107]⟩ then weekP E r
  else if x = ⟨#[100, 97, 116, 101, 115]⟩ then numsP 2 (datesP E r)
  else if x = ⟨#[109, 111, 110, 116, 104]⟩ then numsP 3 (listP E ⟨#[44]⟩ (intP E) 64 r)
  else if x = ⟨#[110, 116, 104]⟩ then numsP 4 (pairP E (choiceP E weekL) (intP E) r)
  else if x = ⟨#[119, 111, 114, 107]⟩ then workP E r
  else numsP 6 (pairP E (numP E) (numP E) r)
def callP (E : Int) (ws : List Tk) : Except Fl (Nd × List Tk) :=
  match nameP E ws with
  | .error f => .error f
  | .ok (x, r) => match mustP E ⟨#[40]⟩ r with
    | .error f => .error f
    | .ok r1 => thenP E ⟨#[41]⟩ (bodyP E x r1)
theorem nameP_text {E : Int} {ws : List Tk} {x : ByteArray} {r : List Tk} (h : nameP E ws = .ok (x, r)) : x = textF ws := by
  cases ws with
  | nil => simp [nameP, wordP] at h
  | cons u r' =>
    unfold nameP wordP at h
    by_cases hk : u.kind = 1
    · simp [hk] at h
      exact h.1.symm
    · simp [hk] at h
theorem numsP_suf {op : Int} {p : Except Fl (List Int × List Tk)} {ws : List Tk} {a : Nd} {r : List Tk} (hp : ∀ l r, p = .ok (l, r) → r <:+ ws) (h : numsP op p = .ok (a, r)) : r <:+ ws := by
  unfold numsP at h
  split at h
  · cases h
  · cases h; exact hp _ _ rfl
theorem pairP_suf {E : Int} {p1 p2 : List Tk → Except Fl (Int × List Tk)} (h1 : ∀ ws a r, p1 ws = .ok (a, r) → r <:+ ws) (h2 : ∀ ws a r, p2 ws = .ok (a, r) → r <:+ ws) {ws : List Tk} {l : List Int} {r : List Tk} (h : pairP E p1 p2 ws = .ok (l, r)) : r <:+ ws := by
  unfold pairP at h
  split at h
  · cases h
  · rename_i a r1 e1
    split at h
    · cases h
    · rename_i b r2 e2
      cases h
      exact (h2 _ _ _ e2).trans (thenP_suf (fun a r h => h1 _ _ _ h) e1)
theorem bodyP_suf {E : Int} {x : ByteArray} {ws : List Tk} {a : Nd} {r : List Tk} (h : bodyP E x ws = .ok (a, r)) : r <:+ ws := by
  unfold bodyP at h
  split at h
  · unfold weekP at h
    split at h
    · cases h
    · rename_i l r2 e
      cases h
      exact listP_suf (fun ws a r h => (choiceP_suf h).1) _ _ _ _ e
  · split at h
    · refine numsP_suf (fun l r e => ?_) h
      unfold datesP at e
      split at e
      · cases e; exact List.suffix_refl _
      · exact listP_suf (fun ws a r h => dateP_suf h) _ _ _ _ e
    · split at h
      · exact numsP_suf (fun l r e => listP_suf (fun ws a r h => intP_suf h) _ _ _ _ e) h
      · split at h
        · exact numsP_suf (fun l r e => pairP_suf (fun ws a r h => (choiceP_suf h).1) (fun ws a r h => intP_suf h) e) h
        · split at h
          · exact workP_suf h
          · exact numsP_suf (fun l r e => pairP_suf (fun ws a r h => numP_suf h) (fun ws a r h => numP_suf h) e) h
theorem callP_suf {E : Int} {ws : List Tk} {a : Nd} {r : List Tk} (h : callP E ws = .ok (a, r)) : r <:+ ws := by
  unfold callP at h
  split at h
  · cases h
  · rename_i x r1 e1
    split at h
    · cases h
    · rename_i r2 e2
      exact (thenP_suf (fun a r h => bodyP_suf h) h).trans ((mustP_suf e2).trans (nameP_suf e1))
set_option maxHeartbeats 4000000 in
set_option maxRecDepth 20000 in
theorem call_bad {w : World} {R : Nat} {E d : Int} {B N : Nat} {ws : List Tk} (h : Rdr w R E d B N ws) (f : Fl) (hf : nameP E ws = .error f ∨ ∃ x r, nameP E ws = .ok (x, r) ∧ mustP E ⟨#[40]⟩ r = .error f) :
    Calls Tryz.prog 216 #[.pointer (some ⟨R, 0, none⟩)] w (PE R E d B N (.error f : Except Fl (Nd × List Tk)) VN w) := by
  have HN : Hid (∀ o, Calls Tryz.prog 135 #[.pointer (some ⟨R, 0, none⟩)] (w.alloc o) (PE R E d B N (nameP E ws) VS (w.alloc o))) := fun o => name_any (h.below (below_new4 o))
  have HM := hide (fun (w : World) (r : List Tk) (h : Rdr w R E d B N r) => must_any ⟨#[40]⟩ h (by decide))
  have HOA : Hid (Only (· = R) w (w.alloc (.cells #[.int .i64 0, .slice none 0 0, .slice none 0 0, .string ⟨#[]⟩] 49))) := Only.alloc _ _ _
  clear h
  unfold PE Ends
  simp only
  rcases hf with hf | ⟨x, r, hx, hm⟩
  · rw [hf] at HN
    unfold PE Ends at HN
    simp only at HN
    go_enter Tryz.func216, Tryz.ntmps216
    go_wp2_with fail
    refine (HN.out _).mono ?_
    rintro e w1 ⟨rfl, ho⟩
    have HO := hide (HOA.out.trans ho (fun _ _ h => h))
    clear ho
    go_wp2
    exact ⟨rfl, rfl, HO.out⟩
  · rw [hx] at HN
    have HM2 := hide (fun w h => HM.out w r h)
    rw [hm] at HM2
    unfold PE Ends VS at HN
    unfold Ends at HM2
    simp only at HN HM2
    go_enter Tryz.func216, Tryz.ntmps216
    go_wp2_with fail
    refine (HN.out _).mono ?_
    rintro e w1 ⟨v, rfl, rfl, hr, ho⟩
    have HO := hide (HOA.out.trans ho (fun _ _ h => h))
    have HR := hide hr
    clear ho hr
    go_wp2_with fail
    refine (HM2.out _ HR.out).mono ?_
    rintro e w2 ⟨rfl, ho2⟩
    have HO2 := hide (HO.out.trans ho2 (fun _ _ h => h))
    clear ho2
    go_wp2
    exact ⟨rfl, rfl, HO2.out⟩
/-- (*jdl.reader).call -/
theorem call_any {w : World} {R : Nat} {E d : Int} {B N : Nat} {ws : List Tk} (h : Rdr w R E d B N ws) (hG : Few9 ws) (hc : isCall (textF ws)) :
    Calls Tryz.prog 216 #[.pointer (some ⟨R, 0, none⟩)] w (PE R E d B N (callP E ws) VN w) := by
  cases hx : nameP E ws with
  | error f =>
    have e : callP E ws = .error f := by unfold callP; rw [hx]
    rw [e]
    exact call_bad h f (.inl hx)
  | ok p =>
    obtain ⟨x, r⟩ := p
    cases hm : mustP E ⟨#[40]⟩ r with
    | error f =>
      have e : callP E ws = .error f := by unfold callP; rw [hx]; simp only; rw [hm]
      rw [e]
      exact call_bad h f (.inr ⟨x, r, hx, hm⟩)
    | ok r1 =>
      have e : callP E ws = thenP E ⟨#[41]⟩ (bodyP E x r1) := by unfold callP; rw [hx]; simp only; rw [hm]
      have hxt := nameP_text hx
      have hG1 : Few9 r1 := hG.suf ((mustP_suf hm).trans (nameP_suf hx))
      rw [e]
      rw [← hxt] at hc
      clear e hxt
      rcases hc with rfl | rfl | rfl | rfl | rfl | rfl
      · exact call_week h hG1 hx hm
      · exact call_dates h hG1 hx hm
      · exact call_month h hG1 hx hm
      · exact call_nth h hG1 hx hm
      · exact call_work h hG1 hx hm
      · exact call_fiscal h hG1 hx hm
/-- one of the days, k brackets more at most -/
def oneP (E : Int) : Nat → List Tk → Except Fl (Nd × List Tk)
  | 0, ws => oneStep E 16 (callP E) (fun _ => .error (0, 0)) ws
  | k + 1, ws => oneStep E (15 - k) (callP E) (oneP E k) ws
theorem oneStep_suf {E d : Int} {call one : List Tk → Except Fl (Nd × List Tk)} (hc : ∀ ws a r, call ws = .ok (a, r) → r <:+ ws) (ho : ∀ ws a r, one ws = .ok (a, r) → r <:+ ws) {ws : List Tk} {a : Nd} {r : List Tk} (h : oneStep E d call one ws = .ok (a, r)) : r <:+ ws := by
  unfold oneStep at h
  split at h
  · unfold notP at h
    split at h
    · cases h
    · rename_i b r2 e
      cases h
      unfold deepP at e
      split at e
      · cases e
      · exact (ho _ _ _ e).trans (List.tail_suffix _)
  · split at h
    · refine thenP_suf (fun a r e => ?_) h
      unfold deepP at e
      split at e
      · cases e
      · exact (manyP_suf (manyP_suf ho) _ _ _ e).trans (List.tail_suffix _)
    · split at h
      · exact hc _ _ _ h
      · split at h
        · cases h
        · unfold refP at h
          split at h
          · cases h
          · rename_i n r2 e
            cases h
            exact nameP_suf e
theorem oneP_suf {E : Int} : ∀ (k : Nat) (ws : List Tk) (a : Nd) (r : List Tk), oneP E k ws = .ok (a, r) → r <:+ ws
  | 0, ws, a, r, h => oneStep_suf (fun _ _ _ h => callP_suf h) (fun _ _ _ h => by cases h) h
  | k + 1, ws, a, r, h => oneStep_suf (fun _ _ _ h => callP_suf h) (oneP_suf k) h
theorem few_n {p : List Tk → Except Fl (Nd × List Tk)} (hp : ∀ ws a r, p ws = .ok (a, r) → r <:+ ws) (ws : List Tk) (a : Nd) (r : List Tk) (h : Few9 ws) (e : p ws = .ok (a, r)) : Few9 r ∧ Few9 r.tail :=
  ⟨h.suf (hp _ _ _ e), h.suf ((List.tail_suffix _).trans (hp _ _ _ e))⟩
/-- (*jdl.reader).oneDays at any depth -/
theorem one_all {R : Nat} {E : Int} {B N : Nat} : ∀ (k : Nat), k ≤ 16 → ∀ (w : World) (ws : List Tk), Few9 ws → Rdr w R E (16 - k) B N ws → Calls Tryz.prog 188 #[.pointer (some ⟨R, 0, none⟩)] w (PE R E (16 - k) B N (oneP E k ws) VN w)
  | 0, _, w, ws, hG, h => by
    have e : oneP E 0 ws = oneStep E (16 - (0 : Nat)) (callP E) (fun _ => .error (0, 0)) ws := rfl
    rw [e]
    exact oneDays_any h (by decide) (by decide) (callP E) _ Few9 hG (fun ws h => h.suf (List.tail_suffix _)) (few_n (fun _ _ _ h => by cases h)) (few_n (manyP_suf (fun _ _ _ h => by cases h))) (fun hc w h => call_any h hG hc) (fun hd => by simp at hd)
  | k + 1, hk, w, ws, hG, h => by
    have e : oneP E (k + 1) ws = oneStep E (16 - ((k + 1 : Nat) : Int)) (callP E) (oneP E k) ws := by
      show oneStep E (15 - k) _ _ ws = _
      rw [show (16 : Int) - ((k + 1 : Nat) : Int) = 15 - k by omega]
    rw [e]
    refine oneDays_any h (by omega) (by omega) (callP E) _ Few9 hG (fun ws h => h.suf (List.tail_suffix _)) (few_n (oneP_suf k)) (few_n (manyP_suf (oneP_suf k))) (fun hc w h => call_any h hG hc) (fun _ w ws hG h => ?_)
    have e2 : (16 : Int) - ((k + 1 : Nat) : Int) + 1 = 16 - k := by omega
    rw [e2] at h ⊢
    exact one_all k (by omega) w ws hG h
/-- (*jdl.reader).days outside of brackets -/
theorem days_all {R : Nat} {E : Int} {B N : Nat} {w : World} {ws : List Tk} (hG : Few9 ws) (h : Rdr w R E 0 B N ws) : Calls Tryz.prog 136 #[.pointer (some ⟨R, 0, none⟩)] w (PE R E 0 B N (daysP E (oneP E 16) ws) VN w) :=
  days_any h (manyP E sAnd 7 (oneP E 16)) Few9 hG (few_n (manyP_suf (oneP_suf 16))) (fun w ws hG h => bothDays_any h (oneP E 16) Few9 hG (few_n (oneP_suf 16)) (fun w ws hG h => one_all 16 (Nat.le_refl _) w ws hG h))
end Go.Proofs.YtkpgfhapffijkaaGreatDoor

/- Package jdl: conditions, whole. -/
namespace Go.Proofs.YtkpgfhapffijkaaGreatDoor
open Go.ChangeShapes Go.WideShapes Go.ChangeAt Go.RowKit Go.DsMem Go.DsLx Go.DsJd Go.DsMk
set_option linter.unusedVariables false
theorem refWP_suf {E : Int} {ws : List Tk} {a : ByteArray × Int} {r : List Tk} (h : refWP E ws = .ok (a, r)) : r <:+ ws := by
  unfold refWP at h
  split at h
  · cases h
  · rename_i n r1 e1
    split at h
    · split at h
      · cases h
      · rename_i i r2 e2
        cases h
        exact ((choiceP_suf e2).1.trans (List.tail_suffix _)).trans (nameP_suf e1)
    · cases h; exact nameP_suf e1
/-- one of the conditions, k brackets more at most -/
def eachP (E : Int) : Nat → List Tk → Except Fl (Ex × List Tk)
  | 0, ws => eachStep E 16 (fun _ => .error (0, 0)) ws
  | k + 1, ws => eachStep E (15 - k) (eachP E k) ws
theorem eachStep_suf {E d : Int} {one : List Tk → Except Fl (Ex × List Tk)} (ho : ∀ ws a r, one ws = .ok (a, r) → r <:+ ws) {ws : List Tk} {a : Ex} {r : List Tk} (h : eachStep E d one ws = .ok (a, r)) : r <:+ ws := by
  unfold eachStep at h
  split at h
  · unfold notE at h
    split at h
    · cases h
    · rename_i b r2 e
      cases h
      unfold deepP at e
      split at e
      · cases e
      · exact (ho _ _ _ e).trans (List.tail_suffix _)
  · split at h
    · refine thenP_suf (fun a r e => ?_) h
      unfold deepP at e
      split at e
      · cases e
      · exact (manyE_suf (manyE_suf ho) _ _ _ e).trans (List.tail_suffix _)
    · split at h
      · cases h
      · unfold hasE at h
        split at h
        · cases h
        · rename_i n r2 e
          cases h
          exact refWP_suf e
theorem eachP_suf {E : Int} : ∀ (k : Nat) (ws : List Tk) (a : Ex) (r : List Tk), eachP E k ws = .ok (a, r) → r <:+ ws
  | 0, ws, a, r, h => eachStep_suf (fun _ _ _ h => by cases h) h
  | k + 1, ws, a, r, h => eachStep_suf (eachP_suf k) h
theorem few_e {p : List Tk → Except Fl (Ex × List Tk)} (hp : ∀ ws a r, p ws = .ok (a, r) → r <:+ ws) (ws : List Tk) (a : Ex) (r : List Tk) (h : Few9 ws) (e : p ws = .ok (a, r)) : Few9 r ∧ Few9 r.tail :=
  ⟨h.suf (hp _ _ _ e), h.suf ((List.tail_suffix _).trans (hp _ _ _ e))⟩
/-- (*jdl.reader).eachCond at any depth -/
theorem each_all {R : Nat} {E : Int} {B N : Nat} : ∀ (k : Nat), k ≤ 16 → ∀ (w : World) (ws : List Tk), Few9 ws → Rdr w R E (16 - k) B N ws → Calls Tryz.prog 234 #[.pointer (some ⟨R, 0, none⟩)] w (PE R E (16 - k) B N (eachP E k ws) VE w)
  | 0, _, w, ws, hG, h => by
    have e : eachP E 0 ws = eachStep E (16 - (0 : Nat)) (fun _ => .error (0, 0)) ws := rfl
    rw [e]
    exact eachCond_any h (by decide) (by decide) _ Few9 hG (fun ws h => h.suf (List.tail_suffix _)) (few_e (fun _ _ _ h => by cases h)) (few_e (manyE_suf (fun _ _ _ h => by cases h))) (fun hd => by simp at hd)
  | k + 1, hk, w, ws, hG, h => by
    have e : eachP E (k + 1) ws = eachStep E (16 - ((k + 1 : Nat) : Int)) (eachP E k) ws := by
      show eachStep E (15 - k) _ ws = _
      rw [show (16 : Int) - ((k + 1 : Nat) : Int) = 15 - k by omega]
    rw [e]
    refine eachCond_any h (by omega) (by omega) _ Few9 hG (fun ws h => h.suf (List.tail_suffix _)) (few_e (eachP_suf k)) (few_e (manyE_suf (eachP_suf k))) (fun _ w ws hG h => ?_)
    have e2 : (16 : Int) - ((k + 1 : Nat) : Int) + 1 = 16 - k := by omega
    rw [e2] at h ⊢
    exact each_all k (by omega) w ws hG h
/-- (*jdl.reader).cond outside of brackets -/
theorem cond_all {R : Nat} {E : Int} {B N : Nat} {w : World} {ws : List Tk} (hG : Few9 ws) (h : Rdr w R E 0 B N ws) : Calls Tryz.prog 197 #[.pointer (some ⟨R, 0, none⟩)] w (PE R E 0 B N (condP E (eachP E 16) ws) VE w) :=
  cond_any h (manyE E sAnd 2 (eachP E 16)) Few9 hG (few_e (manyE_suf (eachP_suf 16))) (fun w ws hG h => allConds_any h (eachP E 16) Few9 hG (few_e (eachP_suf 16)) (fun w ws hG h => each_all 16 (Nat.le_refl _) w ws hG h))
end Go.Proofs.YtkpgfhapffijkaaGreatDoor

/- Plain: the numbers of words are small. -/
namespace Go.Proofs.YtkpgfhapffijkaaGreatDoor
open Go.ChangeShapes Go.WideShapes Go.ChangeAt Go.RowKit Go.DsMem Go.DsLx Go.DsJd Go.DsMk
set_option linter.unusedVariables false
theorem tm_bd (s : ByteArray) : 0 ≤ (DsCal.tmres s).1 ∧ (DsCal.tmres s).1 ≤ 1439 := by
  unfold DsCal.tmres
  split
  · rename_i h5
    have h1 := DsCal.tdres_bd (s.extract 0 2) (by rw [ByteArray.size_extract]; omega)
    have h2 := DsCal.tdres_bd (s.extract 3 s.size) (by rw [ByteArray.size_extract]; omega)
    unfold DsCal.tmOf
    split
    · split
      · rename_i a b; simp only; omega
      · simp only; omega
    · simp only; omega
  · simp only; omega
theorem rdF_n {s : ByteArray} {k : Nat} (hk : k < s.size) : 0 ≤ (rdF s k).1.n ∧ (rdF s k).1.n ≤ 999999999 := by
  unfold rdF readF
  split
  · unfold nameF; split <;> simp [tk0]
  · split
    · unfold numF
      split
      · simp [tk0]
      · rename_i c
        have hb := endE_bd DsLx.dgB s k (by omega)
        have h9 : endE DsLx.dgB s k - k ≤ 9 := by omega
        have := numV_bd (s := s) (k := k) (endE DsLx.dgB s k - k) h9 (fun j hj => runE_all _ k (k + j) (by omega) (show k + j < endE DsLx.dgB s k by omega))
        simp only
        have h10 : (10 ^ (endE DsLx.dgB s k - k) : Nat) ≤ 10 ^ 9 := Nat.pow_le_pow_right (by decide) h9
        have : (10 : Nat) ^ 9 = 1000000000 := by decide
        omega
    · split
      · unfold timeF
        split
        · simp [tk0]
        · have := tm_bd (s.extract k (min (k + 5) s.size))
          simp only; omega
      · split <;> simp [tk0]
theorem tokG_few (s : ByteArray) : ∀ (f k : Nat) (acc : List Tk), Few9 acc → Few9 (tokG s f k acc).1
  | 0, _, _, h => h
  | f + 1, k, acc, h => by
    rw [tokG]
    split
    · rename_i c
      split
      · refine tokG_few s f _ _ ?_
        intro t ht
        rcases List.mem_append.1 ht with a | a
        · exact h t a
        · simp only [List.mem_cons, List.not_mem_nil, or_false] at a
          subst a
          exact rdF_n c
      · intro t ht; simp at ht
    · exact h
/-- the words of any source -/
theorem tokens_few9 (s : ByteArray) : Few9 (tokensF s).1 := by
  unfold tokensF
  split
  · intro t ht; simp at ht
  · exact tokG_few s _ _ _ (fun t ht => by simp at ht)
end Go.Proofs.YtkpgfhapffijkaaGreatDoor

/- Package jdl: a calendar. -/
namespace Go.Proofs.YtkpgfhapffijkaaGreatDoor
open Go.ChangeShapes Go.WideShapes Go.ChangeAt Go.RowKit Go.DsMem Go.DsLx Go.DsJd Go.DsMk
set_option linter.unusedVariables false
def calP (E : Int) (ws : List Tk) : Except Fl ((ByteArray × Nd) × List Tk) :=
  match thenP E ⟨#[61]⟩ (nameP E ws) with
  | .error f => .error f
  | .ok (n, r) => match daysP E (oneP E 16) r with
    | .error f => .error f
    | .ok (t, r2) => .ok ((n, t), r2)
/-- a calendar of one's own -/
def VC (w : World) (p : ByteArray × Nd) (v : Value) (w' : World) : Prop := ∃ nv : NVal, v = .agg #[.string p.1, .int .i64 nv.op, .slice nv.no nv.nl nv.nc, .slice nv.ko nv.kl nv.kc, .string nv.nm] ∧ NdOn (fun b => w.heap.size ≤ b ∧ b < w'.heap.size) w' nv p.2
set_option maxHeartbeats 4000000 in
set_option maxRecDepth 20000 in
/-- (*jdl.reader).calendar -/
theorem calendar_any {w : World} {R : Nat} {E : Int} {B N : Nat} {ws : List Tk} (h : Rdr w R E 0 B N ws) (hG : Few9 ws) : Calls Tryz.prog 102 #[.pointer (some ⟨R, 0, none⟩)] w (PE R E 0 B N (calP E ws) VC w) := by
  obtain ⟨hN1, hN2⟩ := h.n
  have HN : Hid (∀ o, _) := hide (fun o => name_any (h.below (below_new4 o)))
  have HM := hide (fun (w : World) (r : List Tk) (h : Rdr w R E 0 B N r) => must_any ⟨#[61]⟩ h (by decide))
  have HD : Hid (∀ (w : World) n r r2, nameP E ws = .ok (n, r) → mustP E ⟨#[61]⟩ r = .ok r2 → Rdr w R E 0 B N r2 → Calls Tryz.prog 136 #[.pointer (some ⟨R, 0, none⟩)] w (PE R E 0 B N (daysP E (oneP E 16) r2) VN w)) := fun w n r r2 e1 e2 h => days_all (hG.suf ((mustP_suf e2).trans (nameP_suf e1))) h
  have HRES : Hid ((w.alloc (.cells #[.string ⟨#[]⟩, .int .i64 0, .slice none 0 0, .slice none 0 0, .string ⟨#[]⟩] 105)).heap[w.heap.size]? = some (.cells #[.string ⟨#[]⟩, .int .i64 0, .slice none 0 0, .slice none 0 0, .string ⟨#[]⟩] 105 (0, 0))) := heap_alloc_new w _
  have HOA : Hid (Only (· = R) w (w.alloc (.cells #[.string ⟨#[]⟩, .int .i64 0, .slice none 0 0, .slice none 0 0, .string ⟨#[]⟩] 105))) := Only.alloc _ _ _
  have hzA : (w.alloc (.cells #[.string ⟨#[]⟩, .int .i64 0, .slice none 0 0, .slice none 0 0, .string ⟨#[]⟩] 105)).heap.size = w.heap.size + 1 := by simp
  clear h hG
  unfold calP
  generalize nameP E ws = q at *
  cases q with
  | error f =>
    have e : thenP E ⟨#[61]⟩ (.error f : Except Fl (ByteArray × List Tk)) = .error f := rfl
    rw [e]
    unfold PE Ends at HN
    unfold PE Ends
    simp only at HN ⊢
    clear HD
    go_enter Tryz.func102, Tryz.ntmps102
    go_wp2_with fail
    refine (HN.out _).mono ?_
    rintro e w1 ⟨rfl, ho⟩
    have HO := hide (HOA.out.trans ho (fun _ _ h => h))
    clear ho
    go_wp2
    exact ⟨rfl, rfl, HO.out⟩
  | ok p =>
    obtain ⟨n, r⟩ := p
    have e : thenP E ⟨#[61]⟩ (.ok (n, r)) = (match mustP E ⟨#[61]⟩ r with | .error f => .error f | .ok r2 => .ok (n, r2)) := rfl
    rw [e]
    have HM2 := hide (fun (w : World) h => HM.out w r h)
    have HD2 := hide (fun w r2 e h => HD.out w n r r2 rfl e h)
    clear HM e HD
    unfold PE Ends VS at HN
    simp only at HN
    generalize mustP E ⟨#[61]⟩ r = qm at *
    cases qm with
    | error f =>
      unfold Ends at HM2
      unfold PE Ends
      simp only at HM2 ⊢
      clear HD2
      go_enter Tryz.func102, Tryz.ntmps102
      go_wp2_with fail
      refine (HN.out _).mono ?_
      rintro e w1 ⟨v, rfl, rfl, hr, ho⟩
      have HO := hide (HOA.out.trans ho (fun _ _ h => h))
      have HR := hide hr
      clear ho hr
      go_wp2_with fail
      refine (HM2.out _ HR.out).mono ?_
      rintro e w2 ⟨rfl, ho2⟩
      have HO2 := hide (HO.out.trans ho2 (fun _ _ h => h))
      clear ho2
      go_wp2
      exact ⟨rfl, rfl, HO2.out⟩
    | ok r2 =>
      unfold Ends at HM2
      simp only at HM2 ⊢
      have HD3 := hide (fun w h => HD2.out w r2 rfl h)
      clear HD2
      generalize daysP E (oneP E 16) r2 = qd at *
      go_enter Tryz.func102, Tryz.ntmps102
      go_wp2_with fail
      refine (HN.out _).mono ?_
      rintro e w1 ⟨v, rfl, rfl, hr, ho⟩
      have HO := hide (HOA.out.trans ho (fun _ _ h => h))
      have hs1 := ho.size
      have HR := hide hr
      have HRES1 := hide (heap_only HRES.out ho (by omega))
      clear ho hr
      go_wp2_with fail
      refine (HM2.out _ HR.out).mono ?_
      rintro e w2 ⟨rfl, hr2, ho2⟩
      have HO2 := hide (HO.out.trans ho2 (fun _ _ h => h))
      have hs2 := ho2.size
      have HR2 := hide hr2
      have HRES2 := hide (heap_only HRES1.out ho2 (by omega))
      clear ho2 hr2
      go_wp2_with fail
      refine (HD3.out _ HR2.out).mono ?_
      intro e w3 hz
      cases qd with
      | error f =>
        obtain ⟨rfl, ho3⟩ := hz
        have HO3 := hide (HO2.out.trans ho3 (fun _ _ h => h))
        clear ho3
        go_wp2
        exact ⟨rfl, rfl, HO3.out⟩
      | ok p =>
        obtain ⟨t, r3⟩ := p
        obtain ⟨v, rfl, ⟨nv, rfl, hon⟩, hr3, ho3⟩ := hz
        have hres := heap_only HRES2.out ho3 (by omega)
        have q0 : w3.cell? ⟨w.heap.size, 0, none⟩ = some (.string ⟨#[]⟩) := by rw [cell_of hres]; rfl
        have f0 : w3.frozen? ⟨w.heap.size, 0, none⟩ = false := frozen_of hres
        have q1 : w3.cell? ⟨w.heap.size, 1, none⟩ = some (.int .i64 0) := by rw [cell_of hres]; rfl
        have f1 : w3.frozen? ⟨w.heap.size, 1, none⟩ = false := frozen_of hres
        have q2 : w3.cell? ⟨w.heap.size, 2, none⟩ = some (.slice none 0 0) := by rw [cell_of hres]; rfl
        have f2 : w3.frozen? ⟨w.heap.size, 2, none⟩ = false := frozen_of hres
        have q3 : w3.cell? ⟨w.heap.size, 3, none⟩ = some (.slice none 0 0) := by rw [cell_of hres]; rfl
        have f3 : w3.frozen? ⟨w.heap.size, 3, none⟩ = false := frozen_of hres
        have q4 : w3.cell? ⟨w.heap.size, 4, none⟩ = some (.string ⟨#[]⟩) := by rw [cell_of hres]; rfl
        have f4 : w3.frozen? ⟨w.heap.size, 4, none⟩ = false := frozen_of hres
        have HON := hide hon
        have hs3 := ho3.size
        have HR3 := hide hr3
        have HO3 := hide (HO2.out.trans ho3 (fun _ _ h => h))
        clear ho3 hr3 hon hres
        unfold NVal.val ndV
        go_wp2
        refine bodyPost_ret (v := .agg #[.string n, .int .i64 nv.op, .slice nv.no nv.nl nv.nc, .slice nv.ko nv.kl nv.kc, .string nv.nm]) (by simp [results, Tryz.results102, go_sem, q0, q1, q2, q3, q4]) rfl ?_
        have hW : Only (fun k => k = w.heap.size) w3 _ := ((((Only.set w3 w.heap.size 0 (.string n)).trans (Only.set _ w.heap.size 1 (.int .i64 nv.op)) (fun _ _ e => e)).trans (Only.set _ w.heap.size 2 (.slice nv.no nv.nl nv.nc)) (fun _ _ e => e)).trans (Only.set _ w.heap.size 3 (.slice nv.ko nv.kl nv.kc)) (fun _ _ e => e)).trans (Only.set _ w.heap.size 4 (.string nv.nm)) (fun _ _ e => e)
        refine ⟨_, rfl, ⟨nv, rfl, HON.out.mono (fun b hb => ⟨by omega, Nat.lt_of_lt_of_le hb.2 hW.size⟩) (fun ad u hB hc => hW.cell hc (by omega))⟩, ?_, ?_⟩
        · exact HR3.out.only ((((((Below.refl N _).setCell hN1 _).setCell hN1 _).setCell hN1 _).setCell hN1 _).setCell hN1 _)
        · exact HO3.out.trans hW (fun i hi e => absurd e (by omega))
end Go.Proofs.YtkpgfhapffijkaaGreatDoor

/- Package jdl: locks that are held, outcomes. -/
namespace Go.DsJd
open Go.DsLx Go.DsMk
def modeL : List ByteArray := [⟨#[115, 104, 97, 114, 101, 100]⟩, ⟨#[101, 120, 99, 108, 117, 115, 105, 118, 101]⟩]
def signsL : List ByteArray := [⟨#[43]⟩, ⟨#[45]⟩]
end Go.DsJd
namespace Go.Proofs.YtkpgfhapffijkaaGreatDoor
open Go.ChangeShapes Go.WideShapes Go.ChangeAt Go.RowKit Go.DsMem Go.DsLx Go.DsJd Go.DsMk
set_option linter.unusedVariables false
def VUse (w : World) (p : ByteArray × Int) (v : Value) (w' : World) : Prop := v = .agg #[.string p.1, .int .i64 0, .int .i64 (p.2 + 1)]
def VOut (w : World) (p : Int × (ByteArray × Int)) (v : Value) (w' : World) : Prop := v = .agg #[.bool (p.1 == 0), .string p.2.1, .int .i64 p.2.2]
set_option maxHeartbeats 1000000 in
/-- jdl.modeWords -/
theorem modeWords (w : World) : Calls Tryz.prog 145 #[] w fun e w' => e = .returned (.slice (some ⟨w.heap.size, 0, none⟩) 2 2) ∧ w' = w.alloc (.cells (strs modeL) 9) := by
  go_enter Tryz.func145, Tryz.ntmps145
  go_wp2
  go_ret
  exact ⟨rfl, rfl⟩
set_option maxHeartbeats 4000000 in
set_option maxRecDepth 20000 in
/-- (*jdl.reader).use -/
theorem use_any {w : World} {R : Nat} {E d : Int} {B N : Nat} {ws : List Tk} (h : Rdr w R E d B N ws) : Calls Tryz.prog 169 #[.pointer (some ⟨R, 0, none⟩)] w (PE R E d B N (twoP (nameP E) (choiceP E modeL) ws) VUse w) := by
  obtain ⟨hN1, hN2⟩ := h.n
  have HN : Hid (∀ o, _) := hide (fun o => name_any (h.below (below_new4 o)))
  have HC : Hid (∀ (w : World) (r : List Tk), Rdr w R E d B N r → Calls Tryz.prog 189 #[.pointer (some ⟨R, 0, none⟩), .slice (some ⟨w.heap.size, 0, none⟩) 2 2] (w.alloc (.cells (strs modeL) 9)) (PE R E d B N (choiceP E modeL r) VI (w.alloc (.cells (strs modeL) 9)))) := fun w r h =>
    choice_any (h.below (below_new4 _)) modeL w.heap.size 2 (by decide) (by decide) (by decide) (fun j x hx => strs_cells w modeL _ j x hx)
  have HRES : Hid ((w.alloc (.cells #[.string ⟨#[]⟩, .int .i64 0, .int .i64 0] 58)).heap[w.heap.size]? = some (.cells #[.string ⟨#[]⟩, .int .i64 0, .int .i64 0] 58 (0, 0))) := heap_alloc_new w _
  have HOA : Hid (Only (· = R) w (w.alloc (.cells #[.string ⟨#[]⟩, .int .i64 0, .int .i64 0] 58))) := Only.alloc _ _ _
  clear h
  unfold twoP
  generalize nameP E ws = q at *
  cases q with
  | error f =>
    unfold PE Ends at HN
    unfold PE Ends
    simp only at HN ⊢
    go_enter Tryz.func169, Tryz.ntmps169
    go_wp2_with fail
    refine (HN.out _).mono ?_
    rintro e w1 ⟨rfl, ho⟩
    have HO := hide (HOA.out.trans ho (fun _ _ h => h))
    clear ho
    go_wp2
    exact ⟨rfl, rfl, HO.out⟩
  | ok p =>
    obtain ⟨n, r⟩ := p
    unfold PE Ends VS at HN
    simp only at HN ⊢
    have HC2 := hide (fun (w : World) h => HC.out w r h)
    have HB2 := hide (fun i r2 => choiceP_suf (E := E) (lits := modeL) (ws := r) (a := i) (r := r2))
    clear HC
    generalize choiceP E modeL r = q2 at *
    go_enter Tryz.func169, Tryz.ntmps169
    go_wp2_with fail
    refine (HN.out _).mono ?_
    rintro e w1 ⟨v, rfl, rfl, hr, ho⟩
    have HO := hide (HOA.out.trans ho (fun _ _ h => h))
    have HR := hide hr
    have HRES1 := hide (heap_only HRES.out ho (by omega))
    clear ho hr
    go_wp2_with fail
    refine (modeWords w1).mono ?_
    rintro e w2 ⟨rfl, rfl⟩
    go_wp2_with fail
    refine (HC2.out w1 HR.out).mono ?_
    intro e w3 hz
    cases q2 with
    | error f =>
      obtain ⟨rfl, ho3⟩ := hz
      have HO3 := hide ((HO.out.trans (Only.alloc _ _ _) (fun _ _ h => h)).trans ho3 (fun _ _ h => h))
      clear ho3
      go_wp2
      exact ⟨rfl, rfl, HO3.out⟩
    | ok p =>
      obtain ⟨i, r3⟩ := p
      obtain ⟨v, rfl, hv, hr3, ho3⟩ := hz
      unfold VI at hv
      subst hv
      obtain ⟨-, hi0, hi1⟩ := HB2.out i r3 rfl
      have hml : modeL.length = 2 := rfl
      rw [hml] at hi1
      have hres := heap_only (heap_keep' HRES1.out) ho3 (by omega)
      have q0 : w3.cell? ⟨w.heap.size, 0, none⟩ = some (.string ⟨#[]⟩) := by rw [cell_of hres]; rfl
      have f0 : w3.frozen? ⟨w.heap.size, 0, none⟩ = false := frozen_of hres
      have q1 : w3.cell? ⟨w.heap.size, 1, none⟩ = some (.int .i64 0) := by rw [cell_of hres]; rfl
      have f1 : w3.frozen? ⟨w.heap.size, 1, none⟩ = false := frozen_of hres
      have q2 : w3.cell? ⟨w.heap.size, 2, none⟩ = some (.int .i64 0) := by rw [cell_of hres]; rfl
      have f2 : w3.frozen? ⟨w.heap.size, 2, none⟩ = false := frozen_of hres
      have HR3 := hide hr3
      have HO3 := hide ((HO.out.trans (Only.alloc _ _ _) (fun _ _ h => h)).trans ho3 (fun _ _ h => h))
      clear ho3 hr3 hres
      go_wp2
      refine bodyPost_ret (v := .agg #[.string n, .int .i64 0, .int .i64 (i + 1)]) (by simp [results, Tryz.results169, go_sem, q0, q1, q2]) rfl ?_
      exact ⟨_, rfl, rfl, HR3.out.only ((((Below.refl N _).setCell hN1 _).setCell hN1 _).setCell hN1 _), only_set3 HO3.out (Nat.le_refl _) _ _ _⟩
end Go.Proofs.YtkpgfhapffijkaaGreatDoor

/- Package jdl: outcomes. -/
namespace Go.Proofs.YtkpgfhapffijkaaGreatDoor
open Go.ChangeShapes Go.WideShapes Go.ChangeAt Go.RowKit Go.DsMem Go.DsLx Go.DsJd Go.DsMk
set_option linter.unusedVariables false
set_option maxHeartbeats 4000000 in
set_option maxRecDepth 20000 in
/-- (*jdl.reader).outcome -/
theorem outcome_any {w : World} {R : Nat} {E d : Int} {B N : Nat} {ws : List Tk} (h : Rdr w R E d B N ws) : Calls Tryz.prog 166 #[.pointer (some ⟨R, 0, none⟩)] w (PE R E d B N (twoP (choiceP E signsL) (refWP E) ws) VOut w) := by
  obtain ⟨hN1, hN2⟩ := h.n
  obtain ⟨wA, hwA⟩ : ∃ wA, wA = w.alloc (.cells #[.bool false, .string ⟨#[]⟩, .int .i64 0] 88) := ⟨_, rfl⟩
  have hRA : Rdr wA R E d B N ws := by rw [hwA]; exact h.below (below_new4 _)
  have hzA : wA.heap.size = w.heap.size + 1 := by rw [hwA]; simp
  have HC : Hid (Calls Tryz.prog 189 #[.pointer (some ⟨R, 0, none⟩), .slice (some ⟨w.heap.size + 1, 0, none⟩) 2 2] (wA.alloc (.cells #[.string ⟨#[43]⟩, .string ⟨#[45]⟩] 9)) (PE R E d B N (choiceP E signsL ws) VI (wA.alloc (.cells #[.string ⟨#[43]⟩, .string ⟨#[45]⟩] 9)))) := by
    refine hide ?_
    rw [← hzA]
    exact choice_any (hRA.below (below_new4 _)) signsL wA.heap.size 2 (by decide) (by decide) (by decide) (fun j x hx => strs_cells wA signsL _ j x hx)
  have HN2 := hide (fun (w : World) (r : List Tk) (h : Rdr w R E d B N r) => ref_any h)
  have HRES : Hid (wA.heap[w.heap.size]? = some (.cells #[.bool false, .string ⟨#[]⟩, .int .i64 0] 88 (0, 0))) := by rw [hwA]; exact hide (heap_alloc_new w _)
  have HOA : Hid (Only (· = R) w (wA.alloc (.cells #[.string ⟨#[43]⟩, .string ⟨#[45]⟩] 9))) := by rw [hwA]; exact hide ((Only.alloc _ _ _).trans (Only.alloc _ _ _) (fun _ _ h => h))
  clear h hRA hzA
  subst hwA
  unfold twoP
  generalize choiceP E signsL ws = q at *
  cases q with
  | error f =>
    unfold PE Ends at HC
    unfold PE Ends
    simp only at HC ⊢
    go_enter Tryz.func166, Tryz.ntmps166
    go_wp2_with fail
    refine HC.out.mono ?_
    rintro e w1 ⟨rfl, ho⟩
    have HO := hide (HOA.out.trans ho (fun _ _ h => h))
    clear ho
    go_wp2
    exact ⟨rfl, rfl, HO.out⟩
  | ok p =>
    obtain ⟨i, r⟩ := p
    unfold PE Ends VI at HC
    simp only at HC ⊢
    have HN3 := hide (fun (w : World) h => HN2.out w r h)
    clear HN2
    generalize refWP E r = q2 at *
    go_enter Tryz.func166, Tryz.ntmps166
    go_wp2_with fail
    refine HC.out.mono ?_
    rintro e w1 ⟨v, rfl, rfl, hr, ho⟩
    have HO := hide (HOA.out.trans ho (fun _ _ h => h))
    have HR := hide hr
    have HRES1 := hide (heap_only (heap_keep' HRES.out) ho (by omega))
    clear ho hr
    go_wp2_with fail
    refine (HN3.out _ HR.out).mono ?_
    intro e w2 hz
    cases q2 with
    | error f =>
      obtain ⟨rfl, ho2⟩ := hz
      have HO2 := hide (HO.out.trans ho2 (fun _ _ h => h))
      clear ho2
      go_wp2
      exact ⟨rfl, rfl, HO2.out⟩
    | ok p =>
      obtain ⟨⟨n, wh⟩, r2⟩ := p
      obtain ⟨v, rfl, hv, hr2, ho2⟩ := hz
      unfold VR at hv
      subst hv
      have hres := heap_only HRES1.out ho2 (by omega)
      have q0 : w2.cell? ⟨w.heap.size, 0, none⟩ = some (.bool false) := by rw [cell_of hres]; rfl
      have f0 : w2.frozen? ⟨w.heap.size, 0, none⟩ = false := frozen_of hres
      have q1 : w2.cell? ⟨w.heap.size, 1, none⟩ = some (.string ⟨#[]⟩) := by rw [cell_of hres]; rfl
      have f1 : w2.frozen? ⟨w.heap.size, 1, none⟩ = false := frozen_of hres
      have q2 : w2.cell? ⟨w.heap.size, 2, none⟩ = some (.int .i64 0) := by rw [cell_of hres]; rfl
      have f2 : w2.frozen? ⟨w.heap.size, 2, none⟩ = false := frozen_of hres
      have HR2 := hide hr2
      have HO2 := hide (HO.out.trans ho2 (fun _ _ h => h))
      clear ho2 hr2 hres
      go_wp2
      refine bodyPost_ret (v := .agg #[.bool (i == 0), .string n, .int .i64 wh]) (by simp [results, Tryz.results166, go_sem, q0, q1, q2]) rfl ?_
      exact ⟨_, rfl, rfl, HR2.out.only ((((Below.refl N _).setCell hN1 _).setCell hN1 _).setCell hN1 _), only_set3 HO2.out (Nat.le_refl _) _ _ _⟩
end Go.Proofs.YtkpgfhapffijkaaGreatDoor

/- Package jdl: where days are moved. -/
namespace Go.DsJd
open Go.DsLx Go.DsMk
def dirL : List ByteArray := [⟨#[112, 114, 101, 118]⟩, ⟨#[115, 107, 105, 112]⟩, ⟨#[110, 101, 120, 116]⟩]
end Go.DsJd
namespace Go.Proofs.YtkpgfhapffijkaaGreatDoor
open Go.ChangeShapes Go.WideShapes Go.ChangeAt Go.RowKit Go.DsMem Go.DsLx Go.DsJd Go.DsMk
set_option linter.unusedVariables false
def VSh (w : World) (p : Int × Nd) (v : Value) (w' : World) : Prop := ∃ nv : NVal, v = .agg #[.int .i64 (p.1 - 1), .int .i64 nv.op, .slice nv.no nv.nl nv.nc, .slice nv.ko nv.kl nv.kc, .string nv.nm] ∧ NdOn (fun b => w.heap.size ≤ b ∧ b < w'.heap.size) w' nv p.2
set_option maxHeartbeats 1000000 in
/-- jdl.dirWords -/
theorem dirWords (w : World) : Calls Tryz.prog 117 #[] w fun e w' => e = .returned (.slice (some ⟨w.heap.size, 0, none⟩) 3 3) ∧ w' = w.alloc (.cells (strs dirL) 9) := by
  go_enter Tryz.func117, Tryz.ntmps117
  go_wp2
  go_ret
  exact ⟨rfl, rfl⟩
set_option maxHeartbeats 4000000 in
set_option maxRecDepth 20000 in
/-- (*jdl.reader).shift -/
theorem shift_any {w : World} {R : Nat} {E : Int} {B N : Nat} {ws : List Tk} (h : Rdr w R E 0 B N ws) (hG : Few9 ws) : Calls Tryz.prog 193 #[.pointer (some ⟨R, 0, none⟩)] w (PE R E 0 B N (twoP (choiceP E dirL) (daysP E (oneP E 16)) ws) VSh w) := by
  obtain ⟨hN1, hN2⟩ := h.n
  obtain ⟨wA, hwA⟩ : ∃ wA, wA = w.alloc (.cells #[.int .i64 0, .int .i64 0, .slice none 0 0, .slice none 0 0, .string ⟨#[]⟩] 288) := ⟨_, rfl⟩
  have hRA : Rdr wA R E 0 B N ws := by rw [hwA]; exact h.below (below_new4 _)
  have hzA : wA.heap.size = w.heap.size + 1 := by rw [hwA]; simp
  have HWD := hide (dirWords wA)
  have HC : Hid (Calls Tryz.prog 189 #[.pointer (some ⟨R, 0, none⟩), .slice (some ⟨wA.heap.size, 0, none⟩) 3 3] (wA.alloc (.cells (strs dirL) 9)) (PE R E 0 B N (choiceP E dirL ws) VI (wA.alloc (.cells (strs dirL) 9)))) :=
    choice_any (hRA.below (below_new4 _)) dirL wA.heap.size 3 (by decide) (by decide) (by decide) (fun j x hx => strs_cells wA dirL _ j x hx)
  have HD : Hid (∀ (w : World) i r, choiceP E dirL ws = .ok (i, r) → Rdr w R E 0 B N r → Calls Tryz.prog 136 #[.pointer (some ⟨R, 0, none⟩)] w (PE R E 0 B N (daysP E (oneP E 16) r) VN w)) := fun w i r e h => days_all (hG.suf (choiceP_suf e).1) h
  have HB2 := hide (fun i r2 => choiceP_suf (E := E) (lits := dirL) (ws := ws) (a := i) (r := r2))
  have HRES : Hid (wA.heap[w.heap.size]? = some (.cells #[.int .i64 0, .int .i64 0, .slice none 0 0, .slice none 0 0, .string ⟨#[]⟩] 288 (0, 0))) := by rw [hwA]; exact hide (heap_alloc_new w _)
  have HOA : Hid (Only (· = R) w (wA.alloc (.cells (strs dirL) 9))) := by rw [hwA]; exact hide ((Only.alloc _ _ _).trans (Only.alloc _ _ _) (fun _ _ h => h))
  have hzB : (wA.alloc (.cells (strs dirL) 9)).heap.size = w.heap.size + 2 := by simp [hzA]
  rw [hzA] at HWD HC
  clear h hRA hG
  subst hwA
  unfold twoP
  generalize choiceP E dirL ws = q at *
  cases q with
  | error f =>
    unfold PE Ends at HC
    unfold PE Ends
    simp only at HC ⊢
    clear HD HB2
    go_enter Tryz.func193, Tryz.ntmps193
    go_wp2_with fail
    refine HWD.out.mono ?_
    rintro e w0 ⟨rfl, rfl⟩
    go_wp2_with fail
    refine HC.out.mono ?_
    rintro e w1 ⟨rfl, ho⟩
    have HO := hide (HOA.out.trans ho (fun _ _ h => h))
    clear ho
    go_wp2
    exact ⟨rfl, rfl, HO.out⟩
  | ok p =>
    obtain ⟨i, r⟩ := p
    obtain ⟨-, hi0, hi1⟩ := HB2.out i r rfl
    have hdl : dirL.length = 3 := rfl
    rw [hdl] at hi1
    unfold PE Ends VI at HC
    simp only at HC ⊢
    have HD3 := hide (fun w h => HD.out w i r rfl h)
    clear HD HB2
    generalize daysP E (oneP E 16) r = qd at *
    go_enter Tryz.func193, Tryz.ntmps193
    go_wp2_with fail
    refine HWD.out.mono ?_
    rintro e w0 ⟨rfl, rfl⟩
    go_wp2_with fail
    refine HC.out.mono ?_
    rintro e w1 ⟨v, rfl, rfl, hr, ho⟩
    have HO := hide (HOA.out.trans ho (fun _ _ h => h))
    have hs1 := ho.size
    have HR := hide hr
    have HRES1 := hide (heap_only (heap_keep' HRES.out) ho (by omega))
    clear ho hr
    go_wp2_with fail
    refine (HD3.out _ HR.out).mono ?_
    intro e w3 hz
    cases qd with
    | error f =>
      obtain ⟨rfl, ho3⟩ := hz
      have HO3 := hide (HO.out.trans ho3 (fun _ _ h => h))
      clear ho3
      go_wp2
      exact ⟨rfl, rfl, HO3.out⟩
    | ok p =>
      obtain ⟨t, r3⟩ := p
      obtain ⟨v, rfl, ⟨nv, rfl, hon⟩, hr3, ho3⟩ := hz
      have hres := heap_only HRES1.out ho3 (by omega)
      have q0 : w3.cell? ⟨w.heap.size, 0, none⟩ = some (.int .i64 0) := by rw [cell_of hres]; rfl
      have f0 : w3.frozen? ⟨w.heap.size, 0, none⟩ = false := frozen_of hres
      have q1 : w3.cell? ⟨w.heap.size, 1, none⟩ = some (.int .i64 0) := by rw [cell_of hres]; rfl
      have f1 : w3.frozen? ⟨w.heap.size, 1, none⟩ = false := frozen_of hres
      have q2 : w3.cell? ⟨w.heap.size, 2, none⟩ = some (.slice none 0 0) := by rw [cell_of hres]; rfl
      have f2 : w3.frozen? ⟨w.heap.size, 2, none⟩ = false := frozen_of hres
      have q3 : w3.cell? ⟨w.heap.size, 3, none⟩ = some (.slice none 0 0) := by rw [cell_of hres]; rfl
      have f3 : w3.frozen? ⟨w.heap.size, 3, none⟩ = false := frozen_of hres
      have q4 : w3.cell? ⟨w.heap.size, 4, none⟩ = some (.string ⟨#[]⟩) := by rw [cell_of hres]; rfl
      have f4 : w3.frozen? ⟨w.heap.size, 4, none⟩ = false := frozen_of hres
      have HON := hide hon
      have hs3 := ho3.size
      have HR3 := hide hr3
      have HO3 := hide (HO.out.trans ho3 (fun _ _ h => h))
      clear ho3 hr3 hon hres
      unfold NVal.val ndV
      go_wp2
      refine bodyPost_ret (v := .agg #[.int .i64 (i - 1), .int .i64 nv.op, .slice nv.no nv.nl nv.nc, .slice nv.ko nv.kl nv.kc, .string nv.nm]) (by simp [results, Tryz.results193, go_sem, q0, q1, q2, q3, q4]) rfl ?_
      have hW : Only (fun k => k = w.heap.size) w3 _ := ((((Only.set w3 w.heap.size 0 (.int .i64 (i - 1))).trans (Only.set _ w.heap.size 1 (.int .i64 nv.op)) (fun _ _ e => e)).trans (Only.set _ w.heap.size 2 (.slice nv.no nv.nl nv.nc)) (fun _ _ e => e)).trans (Only.set _ w.heap.size 3 (.slice nv.ko nv.kl nv.kc)) (fun _ _ e => e)).trans (Only.set _ w.heap.size 4 (.string nv.nm)) (fun _ _ e => e)
      refine ⟨_, rfl, ⟨nv, rfl, HON.out.mono (fun b hb => ⟨by omega, Nat.lt_of_lt_of_le hb.2 hW.size⟩) (fun ad u hB hc => hW.cell hc (by omega))⟩, ?_, ?_⟩
      · exact HR3.out.only ((((((Below.refl N _).setCell hN1 _).setCell hN1 _).setCell hN1 _).setCell hN1 _).setCell hN1 _)
      · exact HO3.out.trans hW (fun i hi e => absurd e (by omega))
end Go.Proofs.YtkpgfhapffijkaaGreatDoor

/- Package jdl: what stands between a first word and its end, at calendars and shifts. Written by gens6.py. -/
namespace Go.Proofs.YtkpgfhapffijkaaGreatDoor
open Go.ChangeShapes Go.WideShapes Go.ChangeAt Go.RowKit Go.DsMem Go.DsLx Go.DsJd Go.DsMk
set_option linter.unusedVariables false
theorem only_set5 {w w' : World} {R p : Nat} (h : Only (· = R) w w') (hp : w.heap.size ≤ p) (a b c d e : Value) : Only (· = R) w (((((w'.setCell ⟨p, 0, none⟩ a).setCell ⟨p, 1, none⟩ b).setCell ⟨p, 2, none⟩ c).setCell ⟨p, 3, none⟩ d).setCell ⟨p, 4, none⟩ e) := by
  refine h.trans ((((((Only.set w' p 0 a).trans (Only.set _ p 1 b) (fun _ _ e => e)).trans (Only.set _ p 2 c) (fun _ _ e => e)).trans (Only.set _ p 3 d) (fun _ _ e => e)).trans (Only.set _ p 4 e) (fun _ _ e => e))) (fun i hi e => absurd e (by omega))
set_option maxHeartbeats 4000000 in
set_option maxRecDepth 20000 in
/-- jdl.said[cal.Cal] -/
theorem saidCal {w : World} {R : Nat} {E d : Int} {B N : Nat} {t : Tk} {r : List Tk} {α : Type} (h : Rdr w R E d B N (t :: r)) (K : Nat) (first cap : Array Value) (part : List Tk → Except Fl (α × List Tk)) (V : World → α → Value → World → Prop)
    (hcf : CF K) (hV : ∀ wA a v w1, V wA a v w1 → ∃ (n : ByteArray) (op : Int) (no : Option Addr) (nl : Nat) (nc : Nat) (ko : Option Addr) (kl : Nat) (kc : Nat) (nm : ByteArray), v = .agg #[.string n, .int .i64 op, .slice no nl nc, .slice ko kl kc, .string nm]) (hS : ∀ wA a v w1 w2, wA.heap.size = w.heap.size + 1 → V wA a v w1 → Only (fun k => k = R ∨ k = w.heap.size) w1 w2 → V w a v w2) (hA : ∀ wA wB a v w1, wA.heap.size ≤ wB.heap.size → V wB a v w1 → V wA a v w1)
    (hp : ∀ w, Rdr w R E d B N r → Calls Tryz.prog K (first ++ cap) w (PE R E d B N (part r) V w)) :
    Calls Tryz.prog 101 #[.pointer (some ⟨R, 0, none⟩), .func (.func K) first cap] w (PE R E d B N (thenP E ⟨#[59]⟩ (part r)) V w) := by
  obtain ⟨hN1, hN2⟩ := h.n
  have HS : Hid (∀ o, _) := hide (fun o => skip_any (h.below (below_new4 o)))
  have HP := hide hp
  have HV := hide hV
  have HST := hide hS
  have HA := hide hA
  have hcf' := hcf (first ++ cap)
  have HM := hide (fun (w : World) (r : List Tk) (h : Rdr w R E d B N r) => must_any ⟨#[59]⟩ h (by decide))
  have HRES : Hid ((w.alloc (.cells #[.string ⟨#[]⟩, .int .i64 0, .slice none 0 0, .slice none 0 0, .string ⟨#[]⟩] 105)).heap[w.heap.size]? = some (.cells #[.string ⟨#[]⟩, .int .i64 0, .slice none 0 0, .slice none 0 0, .string ⟨#[]⟩] 105 (0, 0))) := heap_alloc_new w _
  have HOA : Hid (Only (· = R) w (w.alloc (.cells #[.string ⟨#[]⟩, .int .i64 0, .slice none 0 0, .slice none 0 0, .string ⟨#[]⟩] 105))) := Only.alloc _ _ _
  have hzA : (w.alloc (.cells #[.string ⟨#[]⟩, .int .i64 0, .slice none 0 0, .slice none 0 0, .string ⟨#[]⟩] 105)).heap.size = w.heap.size + 1 := by simp
  clear h hp hV hS hA hcf
  generalize part r = q at *
  cases q with
  | error f =>
    unfold PE Ends at HP
    unfold PE Ends thenP
    simp only at HP ⊢
    go_enter Tryz.func101, Tryz.ntmps101
    go_wp2_with fail
    refine (HS.out _).mono ?_
    rintro e w1 ⟨rfl, hr, ho⟩
    have HR := hide hr
    have HO := hide (HOA.out.trans ho (fun _ _ h => h))
    clear hr ho
    go_wp2_with fail
    refine (HP.out w1 HR.out).mono ?_
    rintro e w2 ⟨rfl, ho2⟩
    have HO2 := hide (HO.out.trans ho2 (fun _ _ h => h))
    clear ho2
    go_wp2
    exact ⟨rfl, rfl, HO2.out⟩
  | ok p =>
    obtain ⟨a, r'⟩ := p
    have e : thenP E ⟨#[59]⟩ (.ok (a, r')) = (match mustP E ⟨#[59]⟩ r' with | .error f => .error f | .ok r2 => .ok (a, r2)) := rfl
    rw [e]
    have HM2 := hide (fun (w : World) h => HM.out w r' h)
    clear HM e
    unfold PE Ends at HP
    simp only at HP
    generalize mustP E ⟨#[59]⟩ r' = qm at *
    go_enter Tryz.func101, Tryz.ntmps101
    go_wp2_with fail
    refine (HS.out _).mono ?_
    rintro e w1 ⟨rfl, hr, ho⟩
    have HR := hide hr
    have HO := hide (HOA.out.trans ho (fun _ _ h => h))
    have hs1 := ho.size
    have HRES1 := hide (heap_only HRES.out ho (by omega))
    clear hr ho
    go_wp2_with fail
    refine (HP.out w1 HR.out).mono ?_
    rintro e w2 ⟨v, rfl, hv, hr2, ho2⟩
    obtain ⟨n, op, no, nl, nc, ko, kl, kc, nm, rfl⟩ := HV.out _ _ _ _ hv
    have hv' := HA.out (w.alloc (.cells #[.string ⟨#[]⟩, .int .i64 0, .slice none 0 0, .slice none 0 0, .string ⟨#[]⟩] 105)) w1 _ _ _ (by omega) hv
    have HVA := hide hv'
    have HR2 := hide hr2
    have HO2 := hide (HO.out.trans ho2 (fun _ _ h => h))
    have hs2 := ho2.size
    have HRES2 := hide (heap_only HRES1.out ho2 (by omega))
    clear hr2 ho2 hv hv'
    go_wp2_with fail
    refine (HM2.out _ (HR2.out.below (below_new4 _))).mono ?_
    intro e w3 hz
    cases qm with
    | error f =>
      obtain ⟨rfl, ho3⟩ := hz
      have HO3 := hide ((HO2.out.trans (Only.alloc _ _ _) (fun _ _ h => h)).trans ho3 (fun _ _ h => h))
      clear ho3
      go_wp2
      exact ⟨rfl, rfl, HO3.out⟩
    | ok r2 =>
      obtain ⟨rfl, hr3, ho3⟩ := hz
      have hbox : w3.heap[w2.heap.size]? = some (.cells #[.string n, .int .i64 op, .slice no nl nc, .slice ko kl kc, .string nm] 105 (0, 0)) := heap_only (heap_alloc_new w2 _) ho3 (by omega)
      have hres3 : w3.heap[w.heap.size]? = some (.cells #[.string ⟨#[]⟩, .int .i64 0, .slice none 0 0, .slice none 0 0, .string ⟨#[]⟩] 105 (0, 0)) := heap_only (heap_keep' HRES2.out) ho3 (by omega)
      have z0 : w3.cell? ⟨w2.heap.size, 0, none⟩ = some (.string n) := by rw [cell_of hbox]; rfl
      have q0 : w3.cell? ⟨w.heap.size, 0, none⟩ = some (.string ⟨#[]⟩) := by rw [cell_of hres3]; rfl
      have f0 : w3.frozen? ⟨w.heap.size, 0, none⟩ = false := frozen_of hres3
      have z1 : w3.cell? ⟨w2.heap.size, 1, none⟩ = some (.int .i64 op) := by rw [cell_of hbox]; rfl
      have q1 : w3.cell? ⟨w.heap.size, 1, none⟩ = some (.int .i64 0) := by rw [cell_of hres3]; rfl
      have f1 : w3.frozen? ⟨w.heap.size, 1, none⟩ = false := frozen_of hres3
      have z2 : w3.cell? ⟨w2.heap.size, 2, none⟩ = some (.slice no nl nc) := by rw [cell_of hbox]; rfl
      have q2 : w3.cell? ⟨w.heap.size, 2, none⟩ = some (.slice none 0 0) := by rw [cell_of hres3]; rfl
      have f2 : w3.frozen? ⟨w.heap.size, 2, none⟩ = false := frozen_of hres3
      have z3 : w3.cell? ⟨w2.heap.size, 3, none⟩ = some (.slice ko kl kc) := by rw [cell_of hbox]; rfl
      have q3 : w3.cell? ⟨w.heap.size, 3, none⟩ = some (.slice none 0 0) := by rw [cell_of hres3]; rfl
      have f3 : w3.frozen? ⟨w.heap.size, 3, none⟩ = false := frozen_of hres3
      have z4 : w3.cell? ⟨w2.heap.size, 4, none⟩ = some (.string nm) := by rw [cell_of hbox]; rfl
      have q4 : w3.cell? ⟨w.heap.size, 4, none⟩ = some (.string ⟨#[]⟩) := by rw [cell_of hres3]; rfl
      have f4 : w3.frozen? ⟨w.heap.size, 4, none⟩ = false := frozen_of hres3
      have HR3 := hide hr3
      have hW1 : Only (· = R) w2 w3 := (Only.alloc _ _ _).trans ho3 (fun _ _ h => h)
      have HW1 := hide hW1
      have HO3 := hide (HO2.out.trans hW1 (fun _ _ h => h))
      clear hr3 ho3 hbox hres3 hW1
      go_wp2
      refine bodyPost_ret (v := .agg #[.string n, .int .i64 op, .slice no nl nc, .slice ko kl kc, .string nm]) (by simp [results, Tryz.results101, go_sem, q0, q1, q2, q3, q4]) rfl ?_
      have hW : Only (fun k => k = R ∨ k = w.heap.size) w2 _ := (((((HW1.out.mono (fun _ _ e => .inl e)).trans (Only.set _ w.heap.size 0 (.string n)) (fun _ _ e => .inr e)).trans (Only.set _ w.heap.size 1 (.int .i64 op)) (fun _ _ e => .inr e)).trans (Only.set _ w.heap.size 2 (.slice no nl nc)) (fun _ _ e => .inr e)).trans (Only.set _ w.heap.size 3 (.slice ko kl kc)) (fun _ _ e => .inr e)).trans (Only.set _ w.heap.size 4 (.string nm)) (fun _ _ e => .inr e)
      exact ⟨_, rfl, HST.out _ _ _ _ _ hzA HVA.out hW, HR3.out.only ((((((Below.refl N _).setCell hN1 _).setCell hN1 _).setCell hN1 _).setCell hN1 _).setCell hN1 _), only_set5 HO3.out (Nat.le_refl _) _ _ _ _ _⟩
set_option maxHeartbeats 4000000 in
set_option maxRecDepth 20000 in
/-- jdl.said[jdl.shift] -/
theorem saidShift {w : World} {R : Nat} {E d : Int} {B N : Nat} {t : Tk} {r : List Tk} {α : Type} (h : Rdr w R E d B N (t :: r)) (K : Nat) (first cap : Array Value) (part : List Tk → Except Fl (α × List Tk)) (V : World → α → Value → World → Prop)
    (hcf : CF K) (hV : ∀ wA a v w1, V wA a v w1 → ∃ (n : Int) (op : Int) (no : Option Addr) (nl : Nat) (nc : Nat) (ko : Option Addr) (kl : Nat) (kc : Nat) (nm : ByteArray), v = .agg #[.int .i64 n, .int .i64 op, .slice no nl nc, .slice ko kl kc, .string nm]) (hS : ∀ wA a v w1 w2, wA.heap.size = w.heap.size + 1 → V wA a v w1 → Only (fun k => k = R ∨ k = w.heap.size) w1 w2 → V w a v w2) (hA : ∀ wA wB a v w1, wA.heap.size ≤ wB.heap.size → V wB a v w1 → V wA a v w1)
    (hp : ∀ w, Rdr w R E d B N r → Calls Tryz.prog K (first ++ cap) w (PE R E d B N (part r) V w)) :
    Calls Tryz.prog 192 #[.pointer (some ⟨R, 0, none⟩), .func (.func K) first cap] w (PE R E d B N (thenP E ⟨#[59]⟩ (part r)) V w) := by
  obtain ⟨hN1, hN2⟩ := h.n
  have HS : Hid (∀ o, _) := hide (fun o => skip_any (h.below (below_new4 o)))
  have HP := hide hp
  have HV := hide hV
  have HST := hide hS
  have HA := hide hA
  have hcf' := hcf (first ++ cap)
  have HM := hide (fun (w : World) (r : List Tk) (h : Rdr w R E d B N r) => must_any ⟨#[59]⟩ h (by decide))
  have HRES : Hid ((w.alloc (.cells #[.int .i64 0, .int .i64 0, .slice none 0 0, .slice none 0 0, .string ⟨#[]⟩] 288)).heap[w.heap.size]? = some (.cells #[.int .i64 0, .int .i64 0, .slice none 0 0, .slice none 0 0, .string ⟨#[]⟩] 288 (0, 0))) := heap_alloc_new w _
  have HOA : Hid (Only (· = R) w (w.alloc (.cells #[.int .i64 0, .int .i64 0, .slice none 0 0, .slice none 0 0, .string ⟨#[]⟩] 288))) := Only.alloc _ _ _
  have hzA : (w.alloc (.cells #[.int .i64 0, .int .i64 0, .slice none 0 0, .slice none 0 0, .string ⟨#[]⟩] 288)).heap.size = w.heap.size + 1 := by simp
  clear h hp hV hS hA hcf
  generalize part r = q at *
  cases q with
  | error f =>
    unfold PE Ends at HP
    unfold PE Ends thenP
    simp only at HP ⊢
    go_enter Tryz.func192, Tryz.ntmps192
    go_wp2_with fail
    refine (HS.out _).mono ?_
    rintro e w1 ⟨rfl, hr, ho⟩
    have HR := hide hr
    have HO := hide (HOA.out.trans ho (fun _ _ h => h))
    clear hr ho
    go_wp2_with fail
    refine (HP.out w1 HR.out).mono ?_
    rintro e w2 ⟨rfl, ho2⟩
    have HO2 := hide (HO.out.trans ho2 (fun _ _ h => h))
    clear ho2
    go_wp2
    exact ⟨rfl, rfl, HO2.out⟩
  | ok p =>
    obtain ⟨a, r'⟩ := p
    have e : thenP E ⟨#[59]⟩ (.ok (a, r')) = (match mustP E ⟨#[59]⟩ r' with | .error f => .error f | .ok r2 => .ok (a, r2)) := rfl
    rw [e]
    have HM2 := hide (fun (w : World) h => HM.out w r' h)
    clear HM e
    unfold PE Ends at HP
    simp only at HP
    generalize mustP E ⟨#[59]⟩ r' = qm at *
    go_enter Tryz.func192, Tryz.ntmps192
    go_wp2_with fail
    refine (HS.out _).mono ?_
    rintro e w1 ⟨rfl, hr, ho⟩
    have HR := hide hr
    have HO := hide (HOA.out.trans ho (fun _ _ h => h))
    have hs1 := ho.size
    have HRES1 := hide (heap_only HRES.out ho (by omega))
    clear hr ho
    go_wp2_with fail
    refine (HP.out w1 HR.out).mono ?_
    rintro e w2 ⟨v, rfl, hv, hr2, ho2⟩
    obtain ⟨n, op, no, nl, nc, ko, kl, kc, nm, rfl⟩ := HV.out _ _ _ _ hv
    have hv' := HA.out (w.alloc (.cells #[.int .i64 0, .int .i64 0, .slice none 0 0, .slice none 0 0, .string ⟨#[]⟩] 288)) w1 _ _ _ (by omega) hv
    have HVA := hide hv'
    have HR2 := hide hr2
    have HO2 := hide (HO.out.trans ho2 (fun _ _ h => h))
    have hs2 := ho2.size
    have HRES2 := hide (heap_only HRES1.out ho2 (by omega))
    clear hr2 ho2 hv hv'
    go_wp2_with fail
    refine (HM2.out _ (HR2.out.below (below_new4 _))).mono ?_
    intro e w3 hz
    cases qm with
    | error f =>
      obtain ⟨rfl, ho3⟩ := hz
      have HO3 := hide ((HO2.out.trans (Only.alloc _ _ _) (fun _ _ h => h)).trans ho3 (fun _ _ h => h))
      clear ho3
      go_wp2
      exact ⟨rfl, rfl, HO3.out⟩
    | ok r2 =>
      obtain ⟨rfl, hr3, ho3⟩ := hz
      have hbox : w3.heap[w2.heap.size]? = some (.cells #[.int .i64 n, .int .i64 op, .slice no nl nc, .slice ko kl kc, .string nm] 288 (0, 0)) := heap_only (heap_alloc_new w2 _) ho3 (by omega)
      have hres3 : w3.heap[w.heap.size]? = some (.cells #[.int .i64 0, .int .i64 0, .slice none 0 0, .slice none 0 0, .string ⟨#[]⟩] 288 (0, 0)) := heap_only (heap_keep' HRES2.out) ho3 (by omega)
      have z0 : w3.cell? ⟨w2.heap.size, 0, none⟩ = some (.int .i64 n) := by rw [cell_of hbox]; rfl
      have q0 : w3.cell? ⟨w.heap.size, 0, none⟩ = some (.int .i64 0) := by rw [cell_of hres3]; rfl
      have f0 : w3.frozen? ⟨w.heap.size, 0, none⟩ = false := frozen_of hres3
      have z1 : w3.cell? ⟨w2.heap.size, 1, none⟩ = some (.int .i64 op) := by rw [cell_of hbox]; rfl
      have q1 : w3.cell? ⟨w.heap.size, 1, none⟩ = some (.int .i64 0) := by rw [cell_of hres3]; rfl
      have f1 : w3.frozen? ⟨w.heap.size, 1, none⟩ = false := frozen_of hres3
      have z2 : w3.cell? ⟨w2.heap.size, 2, none⟩ = some (.slice no nl nc) := by rw [cell_of hbox]; rfl
      have q2 : w3.cell? ⟨w.heap.size, 2, none⟩ = some (.slice none 0 0) := by rw [cell_of hres3]; rfl
      have f2 : w3.frozen? ⟨w.heap.size, 2, none⟩ = false := frozen_of hres3
      have z3 : w3.cell? ⟨w2.heap.size, 3, none⟩ = some (.slice ko kl kc) := by rw [cell_of hbox]; rfl
      have q3 : w3.cell? ⟨w.heap.size, 3, none⟩ = some (.slice none 0 0) := by rw [cell_of hres3]; rfl
      have f3 : w3.frozen? ⟨w.heap.size, 3, none⟩ = false := frozen_of hres3
      have z4 : w3.cell? ⟨w2.heap.size, 4, none⟩ = some (.string nm) := by rw [cell_of hbox]; rfl
      have q4 : w3.cell? ⟨w.heap.size, 4, none⟩ = some (.string ⟨#[]⟩) := by rw [cell_of hres3]; rfl
      have f4 : w3.frozen? ⟨w.heap.size, 4, none⟩ = false := frozen_of hres3
      have HR3 := hide hr3
      have hW1 : Only (· = R) w2 w3 := (Only.alloc _ _ _).trans ho3 (fun _ _ h => h)
      have HW1 := hide hW1
      have HO3 := hide (HO2.out.trans hW1 (fun _ _ h => h))
      clear hr3 ho3 hbox hres3 hW1
      go_wp2
      refine bodyPost_ret (v := .agg #[.int .i64 n, .int .i64 op, .slice no nl nc, .slice ko kl kc, .string nm]) (by simp [results, Tryz.results192, go_sem, q0, q1, q2, q3, q4]) rfl ?_
      have hW : Only (fun k => k = R ∨ k = w.heap.size) w2 _ := (((((HW1.out.mono (fun _ _ e => .inl e)).trans (Only.set _ w.heap.size 0 (.int .i64 n)) (fun _ _ e => .inr e)).trans (Only.set _ w.heap.size 1 (.int .i64 op)) (fun _ _ e => .inr e)).trans (Only.set _ w.heap.size 2 (.slice no nl nc)) (fun _ _ e => .inr e)).trans (Only.set _ w.heap.size 3 (.slice ko kl kc)) (fun _ _ e => .inr e)).trans (Only.set _ w.heap.size 4 (.string nm)) (fun _ _ e => .inr e)
      exact ⟨_, rfl, HST.out _ _ _ _ _ hzA HVA.out hW, HR3.out.only ((((((Below.refl N _).setCell hN1 _).setCell hN1 _).setCell hN1 _).setCell hN1 _).setCell hN1 _), only_set5 HO3.out (Nat.le_refl _) _ _ _ _ _⟩
end Go.Proofs.YtkpgfhapffijkaaGreatDoor
