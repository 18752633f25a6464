/- Some parts of the proof, one behind the other. -/
import Derived.Test.YtkpgfhapffijkaaDoorLxL
import Derived.Test.YtkpgfhapffijkaaDoorDtA
import Derived.Deep.RegionHeld3
import Derived.WalkLawsBesides
/- Package jdl: the reader, plain and in memory. -/
namespace Go.DsJd
theorem toList_loop (bs : ByteArray) : ∀ (n i : Nat) (r : List UInt8), bs.size - i = n → ByteArray.toList.loop bs i r = r.reverse ++ bs.data.toList.drop i
  | 0, i, r, h => by
    unfold ByteArray.toList.loop
    rw [if_neg (by omega)]
    have hl : bs.data.toList.length = bs.size := by simp
    have : bs.data.toList.drop i = [] := List.drop_eq_nil_of_le (by omega)
    rw [this]; simp
  | n + 1, i, r, h => by
    unfold ByteArray.toList.loop
    rw [if_pos (by omega)]
    rw [toList_loop bs n (i + 1) _ (by omega)]
    have hl : bs.data.toList.length = bs.size := by simp
    have hd := List.drop_eq_getElem_cons (l := bs.data.toList) (i := i) (by omega)
    rw [hd]
    have hi : i < bs.size := by omega
    simp [ByteArray.get!, getElem!_pos, hi]
theorem toList_eq (bs : ByteArray) : bs.toList = bs.data.toList := by
  unfold ByteArray.toList
  rw [toList_loop bs _ 0 [] rfl]; simp
theorem str_ne {y x : ByteArray} (h : ¬ y = x) : (y.toList == x.toList) = false := by
  rw [toList_eq, toList_eq]
  cases hb : y.data.toList == x.data.toList with
  | false => rfl
  | true =>
    have e : y.data.toList = x.data.toList := by simpa using hb
    exact absurd (by cases y; cases x; congr 1; exact Array.toList_inj.1 e) h
/-- a fault: its place and its error -/
abbrev Fl := Int × Int
def atF (E : Int) : List Go.DsLx.Tk → Int
  | [] => E
  | t :: _ => t.at_
def textF : List Go.DsLx.Tk → ByteArray
  | [] => ⟨#[]⟩
  | t :: _ => t.text
def wordP (E kind : Int) : List Go.DsLx.Tk → Except Fl (Go.DsLx.Tk × List Go.DsLx.Tk)
  | [] => .error (E, 20)
  | t :: r => if t.kind = kind then .ok (t, r) else .error ((t.at_ : Int), 20)
def mustP (E : Int) (x : ByteArray) (ws : List Go.DsLx.Tk) : Except Fl (List Go.DsLx.Tk) := if textF ws = x then .ok ws.tail else .error (atF E ws, 20)
end Go.DsJd
namespace Go.Proofs.YtkpgfhapffijkaaDoor
open Go.ChangeShapes Go.WideShapes Go.ChangeAt Go.RowKit Go.DsMem Go.DsLx Go.DsJd
set_option linter.unusedVariables false
/-- a slice that reads as words -/
def TkAt (w : World) (uo : Option Addr) (uc o : Nat) (l : List Tk) : Prop :=
  0 < l.length → ∃ g, uo = some ⟨g, o, none⟩ ∧ l.length ≤ uc ∧ g < w.heap.size ∧ ∀ j t, l[j]? = some t → w.cell? ⟨g, o + j * 4, none⟩ = some (.int .i64 t.kind) ∧ w.cell? ⟨g, o + j * 4 + 1, none⟩ = some (.string t.text) ∧ w.cell? ⟨g, o + j * 4 + 2, none⟩ = some (.int .i64 t.n) ∧ w.cell? ⟨g, o + j * 4 + 3, none⟩ = some (.int .i64 t.at_)
/-- the table of months stands, apart from the reader -/
def TB (w : World) (R N : Nat) : Prop := Dt.Tab w ∧ 1 ≠ R ∧ 1 < N
theorem TB.only {w w' : World} {R N : Nat} (h : TB w R N) (ho : Only (· = R) w w') : TB w' R N :=
  ⟨⟨Nat.lt_of_lt_of_le h.1.1 ho.size, fun m h1 h2 => ho.cell (h.1.2 m h1 h2) h.2.1⟩, h.2⟩
theorem TB.below {w w' : World} {R N : Nat} (h : TB w R N) (hb : Below N w w') : TB w' R N :=
  ⟨⟨Nat.lt_of_lt_of_le h.1.1 hb.size, fun m h1 h2 => by rw [hb.cell h.2.2]; exact h.1.2 m h1 h2⟩, h.2⟩
/-- the reader in block R: what it has not read yet, the source's end, how deep it is, the map in block B -/
def Rdr (w : World) (R : Nat) (E d : Int) (B N : Nat) (ws : List Tk) : Prop :=
  ∃ uo uc o, w.heap[R]? = some (.cells #[.slice uo ws.length uc, .int .i64 E, .int .i64 d, .map (some B)] 63 (0, 0)) ∧ TkAt w uo uc o ws ∧ (∀ a, uo = some a → a.block ≠ R ∧ a.block < N) ∧ ws.length ≤ 8192 ∧ R < N ∧ N ≤ w.heap.size ∧ TB w R N
/-- the value that a panic of the reader holds -/
def flV (f : Fl) : Value := .iface 65 (.agg #[.int .i64 f.1, .int .i64 f.2])
/-- how a call of the reader ends -/
def Ends {β : Type} (r : Except Fl β) (K : World → Prop) (OK : β → Ending → World → Prop) (e : Ending) (w' : World) : Prop :=
  match r with
  | .error f => e = .panicked [{ v := flV f, recovered := false }] ∧ K w'
  | .ok b => OK b e w'
theorem Rdr.lt {w : World} {R : Nat} {E d : Int} {B N : Nat} {ws : List Tk} (h : Rdr w R E d B N ws) : R < w.heap.size := by
  obtain ⟨_, _, _, h, _⟩ := h
  exact block_lt h
theorem TkAt.keep {w w' : World} {uo : Option Addr} {uc o : Nat} {l : List Tk} (h : TkAt w uo uc o l) (hs : w.heap.size ≤ w'.heap.size) (hc : ∀ a u, uo.map (·.block) = some a.block → w.cell? a = some u → w'.cell? a = some u) : TkAt w' uo uc o l := by
  intro h0
  obtain ⟨g, rfl, h1, hg, hcells⟩ := h h0
  refine ⟨g, rfl, h1, by omega, fun j t ht => ?_⟩
  obtain ⟨a, b, c, d⟩ := hcells j t ht
  exact ⟨hc _ _ rfl a, hc _ _ rfl b, hc _ _ rfl c, hc _ _ rfl d⟩
theorem Rdr.only {w w' : World} {R : Nat} {E d : Int} {B N : Nat} {ws : List Tk} (h : Rdr w R E d B N ws) (hb : Below N w w') : Rdr w' R E d B N ws := by
  obtain ⟨uo, uc, o, h1, h2, h3, h4, h5, h6, h7⟩ := h
  refine ⟨uo, uc, o, by rw [hb.block R h5]; exact h1, h2.keep hb.size (fun a u ha hc => ?_), h3, h4, h5, Nat.le_trans h6 hb.size, h7.below hb⟩
  cases uo with
  | none => cases ha
  | some b =>
    simp only [Option.map_some, Option.some.injEq] at ha
    have := (h3 b rfl).2
    rw [hb.cell (by rw [← ha]; exact this)]; exact hc
theorem Rdr.below {w w' : World} {R : Nat} {E d : Int} {B N : Nat} {ws : List Tk} (h : Rdr w R E d B N ws) (hb : Below w.heap.size w w') : Rdr w' R E d B N ws := by
  have : N ≤ w.heap.size := by obtain ⟨_, _, _, _, _, _, _, _, h6, _⟩ := h; exact h6
  exact h.only (hb.mono this)
theorem Rdr.n {w : World} {R : Nat} {E d : Int} {B N : Nat} {ws : List Tk} (h : Rdr w R E d B N ws) : N ≤ w.heap.size ∧ R < N := by obtain ⟨_, _, _, _, _, _, _, h5, h6, _⟩ := h; exact ⟨h6, h5⟩
theorem Rdr.drew {w : World} {R : Nat} {E d : Int} {B N : Nat} {ws : List Tk} (h : Rdr w R E d B N ws) : Rdr w.drew R E d B N ws := h
set_option maxHeartbeats 1000000 in
/-- (*jdl.reader).text -/
theorem text_any {w : World} {R : Nat} {E d : Int} {B N : Nat} {ws : List Tk} (h : Rdr w R E d B N ws) : Calls Tryd.prog 27 #[.pointer (some ⟨R, 0, none⟩)] w fun e w' => e = .returned (.string (textF ws)) ∧ w' = w := by
  obtain ⟨uo, uc, o, h1, h2, h3⟩ := h
  have x0 : w.cell? ⟨R, 0, none⟩ = some (.slice uo ws.length uc) := by rw [cell_of h1]; rfl
  cases ws with
  | nil =>
    clear h1 h2 h3
    simp only [List.length_nil] at x0
    go_enter Tryd.func27, Tryd.ntmps27
    go_wp2
    go_ret
    exact ⟨rfl, rfl⟩
  | cons t r =>
    obtain ⟨g, rfl, hc, hg, hcells⟩ := h2 (by simp)
    obtain ⟨a0, a1, a2, a3⟩ := hcells 0 t rfl
    simp only [Nat.zero_mul, Nat.add_zero] at a1
    clear h1 h2 h3 hcells a0 a2 a3
    simp only [List.length_cons] at x0 hc
    go_enter Tryd.func27, Tryd.ntmps27
    go_wp2
    go_ret
    exact ⟨rfl, rfl⟩
theorem rdr_set {w : World} {R : Nat} {E d : Int} {B N : Nat} {x : Value} (vo : Option Addr) (vc q : Nat) (r : List Tk) (h1 : w.heap[R]? = some (.cells #[x, .int .i64 E, .int .i64 d, .map (some B)] 63 (0, 0))) (hat : TkAt w vo vc q r) (hne : ∀ a, vo = some a → a.block ≠ R ∧ a.block < N) (hl : r.length ≤ 8192) (hN : R < N ∧ N ≤ w.heap.size ∧ TB w R N) :
    Rdr (w.setCell ⟨R, 0, none⟩ (.slice vo r.length vc)) R E d B N r := by
  refine ⟨vo, vc, q, ?_, ?_, hne, hl, hN.1, by simpa [World.setCell] using hN.2.1, hN.2.2.only (Only.set _ _ _ _)⟩
  · rw [hset_same h1]; rfl
  · refine hat.keep (by simp [World.setCell]) (fun a u ha hc => (Only.setCell w ⟨R, 0, none⟩ _).cell hc ?_)
    intro e
    cases vo with
    | none => cases ha
    | some b =>
      simp only [Option.map_some, Option.some.injEq] at ha
      exact (hne b rfl).1 (by rw [ha]; exact e)
theorem TkAt.tail {w : World} {g uc o : Nat} {t : Tk} {r : List Tk} (h : TkAt w (some ⟨g, o, none⟩) uc o (t :: r)) : TkAt w (some ⟨g, o + 4, none⟩) (uc - 1) (o + 4) r := by
  intro h0
  obtain ⟨g', e, h1, hg, hcells⟩ := h (by simp)
  simp only [Option.some.injEq, Addr.mk.injEq, and_true] at e
  subst e
  simp only [List.length_cons] at h1
  refine ⟨g, rfl, by omega, hg, fun j u hu => ?_⟩
  have := hcells (j + 1) u (by simpa using hu)
  rw [show o + (j + 1) * 4 = o + 4 + j * 4 by omega] at this
  exact this
set_option maxHeartbeats 1000000 in
/-- (*jdl.reader).fault -/
theorem fault_any {w : World} {R : Nat} {E d : Int} {B N : Nat} {ws : List Tk} (h : Rdr w R E d B N ws) (er : Int) : Calls Tryd.prog 39 #[.pointer (some ⟨R, 0, none⟩), .int .i64 er] w fun e w' => e = .returned (.agg #[.int .i64 (atF E ws), .int .i64 er]) ∧ Below w.heap.size w w' := by
  obtain ⟨uo, uc, o, h1, h2, h3⟩ := h
  have x0 : w.cell? ⟨R, 0, none⟩ = some (.slice uo ws.length uc) := by rw [cell_of h1]; rfl
  have x1 : w.cell? ⟨R, 1, none⟩ = some (.int .i64 E) := by rw [cell_of h1]; rfl
  have y0 := fun ob : Obj => Below.keeps ((Below.refl _ _).alloc (Nat.le_refl _) ob) (Nat.le_refl _) x0
  have y1 := fun ob : Obj => Below.keeps ((Below.refl _ _).alloc (Nat.le_refl _) ob) (Nat.le_refl _) x1
  cases ws with
  | nil =>
    clear h1 h2 h3 x0 x1
    simp only [List.length_nil] at y0
    go_enter Tryd.func39, Tryd.ntmps39
    go_wp2
    refine bodyPost_ret (v := .agg #[.int .i64 E, .int .i64 er]) (by simp [results, Tryd.results39, go_sem]) rfl ?_
    exact ⟨rfl, (Below.refl _ _).alloc (Nat.le_refl _) _⟩
  | cons t r =>
    obtain ⟨g, rfl, hc, hg, hcells⟩ := h2 (by simp)
    obtain ⟨a0, a1, a2, a3⟩ := hcells 0 t rfl
    simp only [Nat.zero_mul, Nat.add_zero] at a3
    have b3 := fun ob : Obj => Below.keeps ((Below.refl _ _).alloc (Nat.le_refl _) ob) (Nat.le_refl _) a3
    clear h1 h2 h3 x0 x1 hcells a0 a1 a2 a3
    simp only [List.length_cons] at y0 hc
    go_enter Tryd.func39, Tryd.ntmps39
    go_wp2
    refine bodyPost_ret (v := .agg #[.int .i64 t.at_, .int .i64 er]) (by simp [results, Tryd.results39, go_sem]) rfl ?_
    exact ⟨rfl, (Below.refl _ _).alloc (Nat.le_refl _) _⟩
set_option maxHeartbeats 1000000 in
/-- (*jdl.reader).skip -/
theorem skip_any {w : World} {R : Nat} {E d : Int} {B N : Nat} {t : Tk} {r : List Tk} (h : Rdr w R E d B N (t :: r)) : Calls Tryd.prog 42 #[.pointer (some ⟨R, 0, none⟩)] w fun e w' => e = .returned (.tuple #[]) ∧ Rdr w' R E d B N r ∧ Only (· = R) w w' := by
  obtain ⟨uo, uc, o, h1, h2, h3, h4, h5, h6, h7⟩ := h
  have H7 := hide h7
  clear h7
  have x0 : w.cell? ⟨R, 0, none⟩ = some (.slice uo (r.length + 1) uc) := by rw [cell_of h1]; rfl
  obtain ⟨g, rfl, hc, hg, hcells⟩ := h2 (by simp)
  simp only [List.length_cons] at hc h4
  have hf := frozen_of (k := 0) h1
  have H1 := hide h1
  have H2 := hide h2.tail
  have H3 : Hid (g ≠ R ∧ g < N) := h3 _ rfl
  clear h1 h2 h3 hcells
  by_cases hu : uc = 1
  · subst hu
    obtain rfl : r = [] := List.eq_nil_of_length_eq_zero (by omega)
    go_enter Tryd.func42, Tryd.ntmps42
    go_wp2
    go_end0
    exact ⟨rfl, rdr_set (some ⟨g, o, none⟩) 0 0 [] H1.out (fun h => by simp at h) (fun a e => by cases e; exact H3.out) (by simp) ⟨h5, h6, H7.out⟩, Only.set _ _ _ _⟩
  · go_enter Tryd.func42, Tryd.ntmps42
    go_wp2
    go_end0
    exact ⟨rfl, rdr_set (some ⟨g, o + 4, none⟩) (uc - 1) (o + 4) r H1.out H2.out (fun a e => by cases e; exact H3.out) (by omega) ⟨h5, h6, H7.out⟩, Only.set _ _ _ _⟩
set_option maxHeartbeats 1000000 in
/-- (*jdl.reader).take -/
theorem take_yes {w : World} {R : Nat} {E d : Int} {B N : Nat} {t : Tk} {r : List Tk} (h : Rdr w R E d B N (t :: r)) : Calls Tryd.prog 47 #[.pointer (some ⟨R, 0, none⟩), .string t.text] w fun e w' => e = .returned (.bool true) ∧ Rdr w' R E d B N r ∧ Only (· = R) w w' := by
  have HT := hide (text_any h)
  have HS := hide (skip_any h)
  clear h
  go_enter Tryd.func47, Tryd.ntmps47
  go_wp2_with fail
  refine HT.out.mono ?_
  rintro e w1 ⟨rfl, rfl⟩
  simp only [textF]
  go_wp2_with fail
  refine HS.out.mono ?_
  rintro e w2 ⟨rfl, h1, h2⟩
  have H1 := hide h1
  have H2 := hide h2
  clear h1 h2
  go_wp2
  go_ret
  exact ⟨rfl, H1.out, H2.out⟩
set_option maxHeartbeats 1000000 in
theorem take_no {w : World} {R : Nat} {E d : Int} {B N : Nat} {ws : List Tk} {x : ByteArray} (h : Rdr w R E d B N ws) (hx : ¬ textF ws = x) : Calls Tryd.prog 47 #[.pointer (some ⟨R, 0, none⟩), .string x] w fun e w' => e = .returned (.bool false) ∧ w' = w := by
  have HT := hide (text_any h)
  clear h
  have hx' := str_ne hx
  generalize textF ws = y at *
  go_enter Tryd.func47, Tryd.ntmps47
  go_wp2_with fail
  refine HT.out.mono ?_
  rintro e w1 ⟨rfl, rfl⟩
  go_wp2
  go_ret
  exact ⟨rfl, rfl⟩
set_option maxHeartbeats 1000000 in
/-- (*jdl.reader).must -/
theorem must_any {w : World} {R : Nat} {E d : Int} {B N : Nat} {ws : List Tk} (x : ByteArray) (h : Rdr w R E d B N ws) (hx : x ≠ ⟨#[]⟩) : Calls Tryd.prog 43 #[.pointer (some ⟨R, 0, none⟩), .string x] w
    (Ends (mustP E x ws) (fun w' => Only (· = R) w w') fun r e w' => e = .returned (.tuple #[]) ∧ Rdr w' R E d B N r ∧ Only (· = R) w w') := by
  have HF := hide (fault_any h 20)
  by_cases hc : textF ws = x
  · have e : mustP E x ws = .ok ws.tail := by unfold mustP; rw [if_pos hc]
    rw [e]
    cases ws with
    | nil => exact absurd hc.symm hx
    | cons t r =>
      simp only [textF] at hc
      subst hc
      have HT := hide (take_yes h)
      clear h HF
      unfold Ends
      go_enter Tryd.func43, Tryd.ntmps43
      go_wp2_with fail
      refine HT.out.mono ?_
      rintro e w1 ⟨rfl, h1, h2⟩
      have H1 := hide h1
      have H2 := hide h2
      clear h1 h2
      go_wp2
      go_end0
      exact ⟨rfl, H1.out, H2.out⟩
  · have e : mustP E x ws = .error (atF E ws, 20) := by unfold mustP; rw [if_neg hc]
    rw [e]
    have HT := hide (take_no h hc)
    clear h
    unfold Ends
    go_enter Tryd.func43, Tryd.ntmps43
    go_wp2_with fail
    refine HT.out.mono ?_
    rintro e w1 ⟨rfl, rfl⟩
    go_wp2_with fail
    refine HF.out.mono ?_
    rintro e w2 ⟨rfl, hb⟩
    have HB := hide hb
    clear hb
    go_wp2
    exact ⟨rfl, rfl, Only.below HB.out⟩
end Go.Proofs.YtkpgfhapffijkaaDoor

/- Package jdl: one word read. -/
namespace Go.DsJd
open Go.DsLx
def roomP (E : Int) (ws : List Tk) (a m : Int) : Except Fl Unit := if m ≤ a then .error (atF E ws, 4) else .ok ()
def nameP (E : Int) (ws : List Tk) : Except Fl (ByteArray × List Tk) := match wordP E 1 ws with | .error f => .error f | .ok (t, r) => .ok (t.text, r)
def numP (E : Int) (ws : List Tk) : Except Fl (Int × List Tk) := match wordP E 2 ws with | .error f => .error f | .ok (t, r) => .ok (t.n, r)
def timeP (E : Int) (ws : List Tk) : Except Fl (Int × List Tk) := match wordP E 3 ws with | .error f => .error f | .ok (t, r) => .ok (t.n, r)
end Go.DsJd
namespace Go.Proofs.YtkpgfhapffijkaaDoor
open Go.ChangeShapes Go.WideShapes Go.ChangeAt Go.RowKit Go.DsMem Go.DsLx Go.DsJd
set_option linter.unusedVariables false
def tkV (t : Tk) : Value := .agg #[.int .i64 t.kind, .string t.text, .int .i64 t.n, .int .i64 t.at_]
set_option maxHeartbeats 1000000 in
/-- (*jdl.reader).room -/
theorem room_any {w : World} {R : Nat} {E d : Int} {B N : Nat} {ws : List Tk} (h : Rdr w R E d B N ws) (a m : Int) : Calls Tryd.prog 32 #[.pointer (some ⟨R, 0, none⟩), .int .i64 a, .int .i64 m] w
    (Ends (roomP E ws a m) (fun w' => Only (· = R) w w') fun _ e w' => e = .returned (.tuple #[]) ∧ w' = w) := by
  have HF := hide (fault_any h 4)
  clear h
  by_cases hc : m ≤ a
  · have e : roomP E ws a m = .error (atF E ws, 4) := by unfold roomP; rw [if_pos hc]
    rw [e]
    unfold Ends
    go_enter Tryd.func32, Tryd.ntmps32
    go_wp2_with fail
    refine HF.out.mono ?_
    rintro e w2 ⟨rfl, hb⟩
    have HB := hide hb
    clear hb
    go_wp2
    exact ⟨rfl, rfl, Only.below HB.out⟩
  · have e : roomP E ws a m = .ok () := by unfold roomP; rw [if_neg hc]
    rw [e]
    unfold Ends
    have hc' : a < m := by omega
    go_enter Tryd.func32, Tryd.ntmps32
    go_wp2
    go_end0
    exact ⟨rfl, rfl⟩
set_option maxHeartbeats 2000000 in
set_option maxRecDepth 20000 in
/-- (*jdl.reader).word -/
theorem word_any {w : World} {R : Nat} {E d : Int} {B N : Nat} {ws : List Tk} (h : Rdr w R E d B N ws) (kd : Int) : Calls Tryd.prog 44 #[.pointer (some ⟨R, 0, none⟩), .int .i64 kd] w
    (Ends (wordP E kd ws) (fun w' => Only (· = R) w w') fun p e w' => e = .returned (tkV p.1) ∧ Rdr w' R E d B N p.2 ∧ Only (· = R) w w') := by
  have HBA : Hid (∀ o, Below w.heap.size w (w.alloc o)) := fun o => (Below.refl _ _).alloc (Nat.le_refl _) o
  have HF : Hid (∀ o, Calls Tryd.prog 39 #[.pointer (some ⟨R, 0, none⟩), .int .i64 20] (w.alloc o) fun e w' => e = .returned (.agg #[.int .i64 (atF E ws), .int .i64 20]) ∧ Below (w.alloc o).heap.size (w.alloc o) w') := fun o => fault_any (h.below (HBA.out o)) 20
  have HR := hide h
  obtain ⟨hN1, hN2⟩ := h.n
  obtain ⟨uo, uc, o, h1, h2, h3, h4, _⟩ := h
  have x0 : w.cell? ⟨R, 0, none⟩ = some (.slice uo ws.length uc) := by rw [cell_of h1]; rfl
  have y0 := fun ob : Obj => Below.keeps (HBA.out ob) (Nat.le_refl _) x0
  cases ws with
  | nil =>
    have e : wordP E kd [] = .error (E, 20) := rfl
    rw [e]
    unfold Ends
    clear h1 h2 h3 HR x0
    simp only [List.length_nil] at y0
    simp only [atF] at HF
    go_enter Tryd.func44, Tryd.ntmps44
    go_wp2_with fail
    refine (HF.out _).mono ?_
    rintro e w2 ⟨rfl, hb⟩
    have HB := hide hb
    clear hb
    go_wp2
    exact ⟨rfl, rfl, (Only.alloc _ _ _).trans (Only.below HB.out) (fun _ _ h => h)⟩
  | cons t r =>
    obtain ⟨g, rfl, hc, hg, hcells⟩ := h2 (by simp)
    obtain ⟨a0, a1, a2, a3⟩ := hcells 0 t rfl
    simp only [Nat.zero_mul, Nat.add_zero] at a0 a1 a2 a3
    have b0 := fun ob : Obj => Below.keeps (HBA.out ob) (Nat.le_refl _) a0
    have b1 := fun ob : Obj => Below.keeps (HBA.out ob) (Nat.le_refl _) a1
    have b2 := fun ob : Obj => Below.keeps (HBA.out ob) (Nat.le_refl _) a2
    have b3 := fun ob : Obj => Below.keeps (HBA.out ob) (Nat.le_refl _) a3
    have hRlt := HR.out.lt
    clear h1 h2 h3 x0 hcells a0 a1 a2 a3
    simp only [List.length_cons] at y0 hc
    by_cases hk : t.kind = kd
    · have e : wordP E kd (t :: r) = .ok (t, r) := by show (if t.kind = kd then _ else _) = _; rw [if_pos hk]
      rw [e]
      unfold Ends
      subst hk
      have HSK : Hid (∀ o1 o2, Calls Tryd.prog 42 #[.pointer (some ⟨R, 0, none⟩)] ((w.alloc o1).alloc o2) fun e w' => e = .returned (.tuple #[]) ∧ Rdr w' R E d B N r ∧ Only (· = R) ((w.alloc o1).alloc o2) w') := fun o1 o2 =>
        skip_any ((HR.out.below (HBA.out o1)).below ((Below.refl _ _).alloc (Nat.le_refl _) o2))
      clear HF
      obtain ⟨k0, tx, nn, ta⟩ := t
      simp only at b0 b1 b2 b3
      go_enter Tryd.func44, Tryd.ntmps44
      go_wp2_with fail
      refine (HSK.out _ _).mono ?_
      rintro e w2 ⟨rfl, hr2, ho2⟩
      have HR2 := hide hr2
      have HO2 : Hid (Only (· = R) w w2) := ((Only.alloc _ _ _).trans (Only.alloc _ _ _) (fun _ _ h => h)).trans ho2 (fun _ _ h => h)
      have hblk : w2.heap[w.heap.size + 1]? = some (.cells #[.int .i64 k0, .string tx, .int .i64 nn, .int .i64 ta] 55 (0, 0)) := by
        rw [ho2.block (w.heap.size + 1) (by simp) (by omega)]
        have := heap_alloc_new (w.alloc (.cells #[.int .i64 0, .string ⟨#[]⟩, .int .i64 0, .int .i64 0] 55)) (.cells #[.int .i64 k0, .string tx, .int .i64 nn, .int .i64 ta] 55)
        simpa using this
      have hres : w2.heap[w.heap.size]? = some (.cells #[.int .i64 0, .string ⟨#[]⟩, .int .i64 0, .int .i64 0] 55 (0, 0)) := by
        rw [ho2.block w.heap.size (by simp; omega) (by omega)]
        exact heap_keep' (heap_alloc_new w _)
      have z0 : w2.cell? ⟨w.heap.size + 1, 0, none⟩ = some (.int .i64 k0) := by rw [cell_of hblk]; rfl
      have z1 : w2.cell? ⟨w.heap.size + 1, 1, none⟩ = some (.string tx) := by rw [cell_of hblk]; rfl
      have z2 : w2.cell? ⟨w.heap.size + 1, 2, none⟩ = some (.int .i64 nn) := by rw [cell_of hblk]; rfl
      have z3 : w2.cell? ⟨w.heap.size + 1, 3, none⟩ = some (.int .i64 ta) := by rw [cell_of hblk]; rfl
      obtain ⟨⟨q0, q1, q2, q3⟩, f0, f1, f2, f3⟩ := Res0.all (w := w2) (p := w.heap.size) hres
      clear hr2 ho2 hblk hres
      go_wp2
      refine bodyPost_ret (v := tkV ⟨k0, tx, nn, ta⟩) (by simp [results, Tryd.results44, go_sem, q0, q1, q2, q3, tkV]) rfl ⟨rfl, ?_, ?_⟩
      · exact HR2.out.only (((((Below.refl N w2).setCell hN1 _).setCell hN1 _).setCell hN1 _).setCell hN1 _)
      · refine HO2.out.trans (T := (· = w.heap.size)) ?_ (fun i hi e => absurd e (by omega))
        exact (((Only.set w2 w.heap.size 0 _).trans (Only.set _ w.heap.size 1 _) (fun _ _ h => h)).trans (Only.set _ w.heap.size 2 _) (fun _ _ h => h)).trans (Only.set _ w.heap.size 3 _) (fun _ _ h => h)
    · have e : wordP E kd (t :: r) = .error ((t.at_ : Int), 20) := by show (if t.kind = kd then _ else _) = _; rw [if_neg hk]
      rw [e]
      unfold Ends
      have hk' : (t.kind != kd) = true := by simpa using hk
      obtain ⟨k0, tx, nn, ta⟩ := t
      simp only at b0 b1 b2 b3 hk hk'
      simp only [atF] at HF
      clear HR
      go_enter Tryd.func44, Tryd.ntmps44
      go_wp2_with fail
      refine (HF.out _).mono ?_
      rintro e w2 ⟨rfl, hb⟩
      have HB := hide hb
      clear hb
      go_wp2
      exact ⟨rfl, rfl, (Only.alloc _ _ _).trans (Only.below HB.out) (fun _ _ h => h)⟩
end Go.Proofs.YtkpgfhapffijkaaDoor

