/- Package jdl: the reader, plain and in memory. -/
import Derived.Test.YtkpgfhapffijkaaGreatDoorR09
import Derived.Test.YtkpgfhapffijkaaGreatDoorR10
import Derived.Deep.RegionHeld3
import Derived.WalkLawsBesides
import Derived.Deep.AppendLies
namespace Go.DsJd
theorem toList_loop (bs : ByteArray) : ∀ (n i : Nat) (r : List UInt8), bs.size - i = n → ByteArray.toList.loop bs i r = r.reverse ++ bs.data.toList.drop i
  | 0, i, r, h => by
    unfold ByteArray.toList.loop
    rw [if_neg (by omega)]
    have hl : bs.data.toList.length = bs.size := by simp
    have : bs.data.toList.drop i = [] := List.drop_eq_nil_of_le (by omega)
    rw [this]; simp
  | n + 1, i, r, h => by
    unfold ByteArray.toList.loop
    rw [if_pos (by omega)]
    rw [toList_loop bs n (i + 1) _ (by omega)]
    have hl : bs.data.toList.length = bs.size := by simp
    have hd := List.drop_eq_getElem_cons (l := bs.data.toList) (i := i) (by omega)
    rw [hd]
    have hi : i < bs.size := by omega
    simp [ByteArray.get!, getElem!_pos, hi]
theorem toList_eq (bs : ByteArray) : bs.toList = bs.data.toList := by
  unfold ByteArray.toList
  rw [toList_loop bs _ 0 [] rfl]; simp
theorem str_ne {y x : ByteArray} (h : ¬ y = x) : (y.toList == x.toList) = false := by
  rw [toList_eq, toList_eq]
  cases hb : y.data.toList == x.data.toList with
  | false => rfl
  | true =>
    have e : y.data.toList = x.data.toList := by simpa using hb
    exact absurd (by cases y; cases x; congr 1; exact Array.toList_inj.1 e) h
/-- a fault: its place and its error -/
abbrev Fl := Int × Int
def atF (E : Int) : List Go.DsLx.Tk → Int
  | [] => E
  | t :: _ => t.at_
def textF : List Go.DsLx.Tk → ByteArray
  | [] => ⟨#[]⟩
  | t :: _ => t.text
def wordP (E kind : Int) : List Go.DsLx.Tk → Except Fl (Go.DsLx.Tk × List Go.DsLx.Tk)
  | [] => .error (E, 20)
  | t :: r => if t.kind = kind then .ok (t, r) else .error ((t.at_ : Int), 20)
def mustP (E : Int) (x : ByteArray) (ws : List Go.DsLx.Tk) : Except Fl (List Go.DsLx.Tk) := if textF ws = x then .ok ws.tail else .error (atF E ws, 20)
end Go.DsJd
namespace Go.Proofs.YtkpgfhapffijkaaGreatDoor
open Go.ChangeShapes Go.WideShapes Go.ChangeAt Go.RowKit Go.DsMem Go.DsLx Go.DsJd
set_option linter.unusedVariables false
/-- a slice that reads as words -/
def TkAt (w : World) (uo : Option Addr) (uc o : Nat) (l : List Tk) : Prop :=
  0 < l.length → ∃ g, uo = some ⟨g, o, none⟩ ∧ l.length ≤ uc ∧ g < w.heap.size ∧ ∀ j t, l[j]? = some t → w.cell? ⟨g, o + j * 4, none⟩ = some (.int .i64 t.kind) ∧ w.cell? ⟨g, o + j * 4 + 1, none⟩ = some (.string t.text) ∧ w.cell? ⟨g, o + j * 4 + 2, none⟩ = some (.int .i64 t.n) ∧ w.cell? ⟨g, o + j * 4 + 3, none⟩ = some (.int .i64 t.at_)
/-- the table of months stands, apart from the reader -/
def TB (w : World) (R N : Nat) : Prop := Dt.Tab w ∧ 2 ≠ R ∧ 2 < N
theorem TB.only {w w' : World} {R N : Nat} (h : TB w R N) (ho : Only (· = R) w w') : TB w' R N :=
  ⟨⟨Nat.lt_of_lt_of_le h.1.1 ho.size, fun m h1 h2 => ho.cell (h.1.2 m h1 h2) h.2.1⟩, h.2⟩
theorem TB.below {w w' : World} {R N : Nat} (h : TB w R N) (hb : Below N w w') : TB w' R N :=
  ⟨⟨Nat.lt_of_lt_of_le h.1.1 hb.size, fun m h1 h2 => by rw [hb.cell h.2.2]; exact h.1.2 m h1 h2⟩, h.2⟩
/-- the reader in block R: what it has not read yet, the source's end, how deep it is, the map in block B -/
def Rdr (w : World) (R : Nat) (E d : Int) (B N : Nat) (ws : List Tk) : Prop :=
  ∃ uo uc o, w.heap[R]? = some (.cells #[.slice uo ws.length uc, .int .i64 E, .int .i64 d, .map (some B)] 135 (0, 0)) ∧ TkAt w uo uc o ws ∧ (∀ a, uo = some a → a.block ≠ R ∧ a.block < N) ∧ ws.length ≤ 8192 ∧ R < N ∧ N ≤ w.heap.size ∧ TB w R N
/-- the value that a panic of the reader holds -/
def flV (f : Fl) : Value := .iface 137 (.agg #[.int .i64 f.1, .int .i64 f.2])
/-- how a call of the reader ends -/
def Ends {β : Type} (r : Except Fl β) (K : World → Prop) (OK : β → Ending → World → Prop) (e : Ending) (w' : World) : Prop :=
  match r with
  | .error f => e = .panicked [{ v := flV f, recovered := false }] ∧ K w'
  | .ok b => OK b e w'
theorem Rdr.lt {w : World} {R : Nat} {E d : Int} {B N : Nat} {ws : List Tk} (h : Rdr w R E d B N ws) : R < w.heap.size := by
  obtain ⟨_, _, _, h, _⟩ := h
  exact block_lt h
theorem TkAt.keep {w w' : World} {uo : Option Addr} {uc o : Nat} {l : List Tk} (h : TkAt w uo uc o l) (hs : w.heap.size ≤ w'.heap.size) (hc : ∀ a u, uo.map (·.block) = some a.block → w.cell? a = some u → w'.cell? a = some u) : TkAt w' uo uc o l := by
  intro h0
  obtain ⟨g, rfl, h1, hg, hcells⟩ := h h0
  refine ⟨g, rfl, h1, by omega, fun j t ht => ?_⟩
  obtain ⟨a, b, c, d⟩ := hcells j t ht
  exact ⟨hc _ _ rfl a, hc _ _ rfl b, hc _ _ rfl c, hc _ _ rfl d⟩
theorem Rdr.only {w w' : World} {R : Nat} {E d : Int} {B N : Nat} {ws : List Tk} (h : Rdr w R E d B N ws) (hb : Below N w w') : Rdr w' R E d B N ws := by
  obtain ⟨uo, uc, o, h1, h2, h3, h4, h5, h6, h7⟩ := h
  refine ⟨uo, uc, o, by rw [hb.block R h5]; exact h1, h2.keep hb.size (fun a u ha hc => ?_), h3, h4, h5, Nat.le_trans h6 hb.size, h7.below hb⟩
  cases uo with
  | none => cases ha
  | some b =>
    simp only [Option.map_some, Option.some.injEq] at ha
    have := (h3 b rfl).2
    rw [hb.cell (by rw [← ha]; exact this)]; exact hc
theorem Rdr.below {w w' : World} {R : Nat} {E d : Int} {B N : Nat} {ws : List Tk} (h : Rdr w R E d B N ws) (hb : Below w.heap.size w w') : Rdr w' R E d B N ws := by
  have : N ≤ w.heap.size := by obtain ⟨_, _, _, _, _, _, _, _, h6, _⟩ := h; exact h6
  exact h.only (hb.mono this)
theorem Rdr.n {w : World} {R : Nat} {E d : Int} {B N : Nat} {ws : List Tk} (h : Rdr w R E d B N ws) : N ≤ w.heap.size ∧ R < N := by obtain ⟨_, _, _, _, _, _, _, h5, h6, _⟩ := h; exact ⟨h6, h5⟩
theorem Rdr.drew {w : World} {R : Nat} {E d : Int} {B N : Nat} {ws : List Tk} (h : Rdr w R E d B N ws) : Rdr w.drew R E d B N ws := h
set_option maxHeartbeats 1000000 in
/-- (*jdl.reader).text -/
theorem text_any {w : World} {R : Nat} {E d : Int} {B N : Nat} {ws : List Tk} (h : Rdr w R E d B N ws) : Calls Tryz.prog 95 #[.pointer (some ⟨R, 0, none⟩)] w fun e w' => e = .returned (.string (textF ws)) ∧ w' = w := by
  obtain ⟨uo, uc, o, h1, h2, h3⟩ := h
  have x0 : w.cell? ⟨R, 0, none⟩ = some (.slice uo ws.length uc) := by rw [cell_of h1]; rfl
  cases ws with
  | nil =>
    clear h1 h2 h3
    simp only [List.length_nil] at x0
    go_enter Tryz.func95, Tryz.ntmps95
    go_wp2
    go_ret
    exact ⟨rfl, rfl⟩
  | cons t r =>
    obtain ⟨g, rfl, hc, hg, hcells⟩ := h2 (by simp)
    obtain ⟨a0, a1, a2, a3⟩ := hcells 0 t rfl
    simp only [Nat.zero_mul, Nat.add_zero] at a1
    clear h1 h2 h3 hcells a0 a2 a3
    simp only [List.length_cons] at x0 hc
    go_enter Tryz.func95, Tryz.ntmps95
    go_wp2
    go_ret
    exact ⟨rfl, rfl⟩
theorem rdr_set {w : World} {R : Nat} {E d : Int} {B N : Nat} {x : Value} (vo : Option Addr) (vc q : Nat) (r : List Tk) (h1 : w.heap[R]? = some (.cells #[x, .int .i64 E, .int .i64 d, .map (some B)] 135 (0, 0))) (hat : TkAt w vo vc q r) (hne : ∀ a, vo = some a → a.block ≠ R ∧ a.block < N) (hl : r.length ≤ 8192) (hN : R < N ∧ N ≤ w.heap.size ∧ TB w R N) :
    Rdr (w.setCell ⟨R, 0, none⟩ (.slice vo r.length vc)) R E d B N r := by
  refine ⟨vo, vc, q, ?_, ?_, hne, hl, hN.1, by simpa [World.setCell] using hN.2.1, hN.2.2.only (Only.set _ _ _ _)⟩
  · rw [hset_same h1]; rfl
  · refine hat.keep (by simp [World.setCell]) (fun a u ha hc => (Only.setCell w ⟨R, 0, none⟩ _).cell hc ?_)
    intro e
    cases vo with
    | none => cases ha
    | some b =>
      simp only [Option.map_some, Option.some.injEq] at ha
      exact (hne b rfl).1 (by rw [ha]; exact e)
theorem TkAt.tail {w : World} {g uc o : Nat} {t : Tk} {r : List Tk} (h : TkAt w (some ⟨g, o, none⟩) uc o (t :: r)) : TkAt w (some ⟨g, o + 4, none⟩) (uc - 1) (o + 4) r := by
  intro h0
  obtain ⟨g', e, h1, hg, hcells⟩ := h (by simp)
  simp only [Option.some.injEq, Addr.mk.injEq, and_true] at e
  subst e
  simp only [List.length_cons] at h1
  refine ⟨g, rfl, by omega, hg, fun j u hu => ?_⟩
  have := hcells (j + 1) u (by simpa using hu)
  rw [show o + (j + 1) * 4 = o + 4 + j * 4 by omega] at this
  exact this
set_option maxHeartbeats 1000000 in
/-- (*jdl.reader).fault -/
theorem fault_any {w : World} {R : Nat} {E d : Int} {B N : Nat} {ws : List Tk} (h : Rdr w R E d B N ws) (er : Int) : Calls Tryz.prog 107 #[.pointer (some ⟨R, 0, none⟩), .int .i64 er] w fun e w' => e = .returned (.agg #[.int .i64 (atF E ws), .int .i64 er]) ∧ Below w.heap.size w w' := by
  obtain ⟨uo, uc, o, h1, h2, h3⟩ := h
  have x0 : w.cell? ⟨R, 0, none⟩ = some (.slice uo ws.length uc) := by rw [cell_of h1]; rfl
  have x1 : w.cell? ⟨R, 1, none⟩ = some (.int .i64 E) := by rw [cell_of h1]; rfl
  have y0 := fun ob : Obj => Below.keeps ((Below.refl _ _).alloc (Nat.le_refl _) ob) (Nat.le_refl _) x0
  have y1 := fun ob : Obj => Below.keeps ((Below.refl _ _).alloc (Nat.le_refl _) ob) (Nat.le_refl _) x1
  cases ws with
  | nil =>
    clear h1 h2 h3 x0 x1
    simp only [List.length_nil] at y0
    go_enter Tryz.func107, Tryz.ntmps107
    go_wp2
    refine bodyPost_ret (v := .agg #[.int .i64 E, .int .i64 er]) (by simp [results, Tryz.results107, go_sem]) rfl ?_
    exact ⟨rfl, (Below.refl _ _).alloc (Nat.le_refl _) _⟩
  | cons t r =>
    obtain ⟨g, rfl, hc, hg, hcells⟩ := h2 (by simp)
    obtain ⟨a0, a1, a2, a3⟩ := hcells 0 t rfl
    simp only [Nat.zero_mul, Nat.add_zero] at a3
    have b3 := fun ob : Obj => Below.keeps ((Below.refl _ _).alloc (Nat.le_refl _) ob) (Nat.le_refl _) a3
    clear h1 h2 h3 x0 x1 hcells a0 a1 a2 a3
    simp only [List.length_cons] at y0 hc
    go_enter Tryz.func107, Tryz.ntmps107
    go_wp2
    refine bodyPost_ret (v := .agg #[.int .i64 t.at_, .int .i64 er]) (by simp [results, Tryz.results107, go_sem]) rfl ?_
    exact ⟨rfl, (Below.refl _ _).alloc (Nat.le_refl _) _⟩
set_option maxHeartbeats 1000000 in
/-- (*jdl.reader).skip -/
theorem skip_any {w : World} {R : Nat} {E d : Int} {B N : Nat} {t : Tk} {r : List Tk} (h : Rdr w R E d B N (t :: r)) : Calls Tryz.prog 132 #[.pointer (some ⟨R, 0, none⟩)] w fun e w' => e = .returned (.tuple #[]) ∧ Rdr w' R E d B N r ∧ Only (· = R) w w' := by
  obtain ⟨uo, uc, o, h1, h2, h3, h4, h5, h6, h7⟩ := h
  have H7 := hide h7
  clear h7
  have x0 : w.cell? ⟨R, 0, none⟩ = some (.slice uo (r.length + 1) uc) := by rw [cell_of h1]; rfl
  obtain ⟨g, rfl, hc, hg, hcells⟩ := h2 (by simp)
  simp only [List.length_cons] at hc h4
  have hf := frozen_of (k := 0) h1
  have H1 := hide h1
  have H2 := hide h2.tail
  have H3 : Hid (g ≠ R ∧ g < N) := h3 _ rfl
  clear h1 h2 h3 hcells
  by_cases hu : uc = 1
  · subst hu
    obtain rfl : r = [] := List.eq_nil_of_length_eq_zero (by omega)
    go_enter Tryz.func132, Tryz.ntmps132
    go_wp2
    go_end0
    exact ⟨rfl, rdr_set (some ⟨g, o, none⟩) 0 0 [] H1.out (fun h => by simp at h) (fun a e => by cases e; exact H3.out) (by simp) ⟨h5, h6, H7.out⟩, Only.set _ _ _ _⟩
  · go_enter Tryz.func132, Tryz.ntmps132
    go_wp2
    go_end0
    exact ⟨rfl, rdr_set (some ⟨g, o + 4, none⟩) (uc - 1) (o + 4) r H1.out H2.out (fun a e => by cases e; exact H3.out) (by omega) ⟨h5, h6, H7.out⟩, Only.set _ _ _ _⟩
set_option maxHeartbeats 1000000 in
/-- (*jdl.reader).take -/
theorem take_yes {w : World} {R : Nat} {E d : Int} {B N : Nat} {t : Tk} {r : List Tk} (h : Rdr w R E d B N (t :: r)) : Calls Tryz.prog 137 #[.pointer (some ⟨R, 0, none⟩), .string t.text] w fun e w' => e = .returned (.bool true) ∧ Rdr w' R E d B N r ∧ Only (· = R) w w' := by
  have HT := hide (text_any h)
  have HS := hide (skip_any h)
  clear h
  go_enter Tryz.func137, Tryz.ntmps137
  go_wp2_with fail
  refine HT.out.mono ?_
  rintro e w1 ⟨rfl, rfl⟩
  simp only [textF]
  go_wp2_with fail
  refine HS.out.mono ?_
  rintro e w2 ⟨rfl, h1, h2⟩
  have H1 := hide h1
  have H2 := hide h2
  clear h1 h2
  go_wp2
  go_ret
  exact ⟨rfl, H1.out, H2.out⟩
set_option maxHeartbeats 1000000 in
theorem take_no {w : World} {R : Nat} {E d : Int} {B N : Nat} {ws : List Tk} {x : ByteArray} (h : Rdr w R E d B N ws) (hx : ¬ textF ws = x) : Calls Tryz.prog 137 #[.pointer (some ⟨R, 0, none⟩), .string x] w fun e w' => e = .returned (.bool false) ∧ w' = w := by
  have HT := hide (text_any h)
  clear h
  have hx' := str_ne hx
  generalize textF ws = y at *
  go_enter Tryz.func137, Tryz.ntmps137
  go_wp2_with fail
  refine HT.out.mono ?_
  rintro e w1 ⟨rfl, rfl⟩
  go_wp2
  go_ret
  exact ⟨rfl, rfl⟩
set_option maxHeartbeats 1000000 in
/-- (*jdl.reader).must -/
theorem must_any {w : World} {R : Nat} {E d : Int} {B N : Nat} {ws : List Tk} (x : ByteArray) (h : Rdr w R E d B N ws) (hx : x ≠ ⟨#[]⟩) : Calls Tryz.prog 133 #[.pointer (some ⟨R, 0, none⟩), .string x] w
    (Ends (mustP E x ws) (fun w' => Only (· = R) w w') fun r e w' => e = .returned (.tuple #[]) ∧ Rdr w' R E d B N r ∧ Only (· = R) w w') := by
  have HF := hide (fault_any h 20)
  by_cases hc : textF ws = x
  · have e : mustP E x ws = .ok ws.tail := by unfold mustP; rw [if_pos hc]
    rw [e]
    cases ws with
    | nil => exact absurd hc.symm hx
    | cons t r =>
      simp only [textF] at hc
      subst hc
      have HT := hide (take_yes h)
      clear h HF
      unfold Ends
      go_enter Tryz.func133, Tryz.ntmps133
      go_wp2_with fail
      refine HT.out.mono ?_
      rintro e w1 ⟨rfl, h1, h2⟩
      have H1 := hide h1
      have H2 := hide h2
      clear h1 h2
      go_wp2
      go_end0
      exact ⟨rfl, H1.out, H2.out⟩
  · have e : mustP E x ws = .error (atF E ws, 20) := by unfold mustP; rw [if_neg hc]
    rw [e]
    have HT := hide (take_no h hc)
    clear h
    unfold Ends
    go_enter Tryz.func133, Tryz.ntmps133
    go_wp2_with fail
    refine HT.out.mono ?_
    rintro e w1 ⟨rfl, rfl⟩
    go_wp2_with fail
    refine HF.out.mono ?_
    rintro e w2 ⟨rfl, hb⟩
    have HB := hide hb
    clear hb
    go_wp2
    exact ⟨rfl, rfl, Only.below HB.out⟩
end Go.Proofs.YtkpgfhapffijkaaGreatDoor

/- Package jdl: one word read. -/
namespace Go.DsJd
open Go.DsLx
def roomP (E : Int) (ws : List Tk) (a m : Int) : Except Fl Unit := if m ≤ a then .error (atF E ws, 4) else .ok ()
def nameP (E : Int) (ws : List Tk) : Except Fl (ByteArray × List Tk) := match wordP E 1 ws with | .error f => .error f | .ok (t, r) => .ok (t.text, r)
def numP (E : Int) (ws : List Tk) : Except Fl (Int × List Tk) := match wordP E 2 ws with | .error f => .error f | .ok (t, r) => .ok (t.n, r)
def timeP (E : Int) (ws : List Tk) : Except Fl (Int × List Tk) := match wordP E 3 ws with | .error f => .error f | .ok (t, r) => .ok (t.n, r)
end Go.DsJd
namespace Go.Proofs.YtkpgfhapffijkaaGreatDoor
open Go.ChangeShapes Go.WideShapes Go.ChangeAt Go.RowKit Go.DsMem Go.DsLx Go.DsJd
set_option linter.unusedVariables false
def tkV (t : Tk) : Value := .agg #[.int .i64 t.kind, .string t.text, .int .i64 t.n, .int .i64 t.at_]
set_option maxHeartbeats 1000000 in
/-- (*jdl.reader).room -/
theorem room_any {w : World} {R : Nat} {E d : Int} {B N : Nat} {ws : List Tk} (h : Rdr w R E d B N ws) (a m : Int) : Calls Tryz.prog 100 #[.pointer (some ⟨R, 0, none⟩), .int .i64 a, .int .i64 m] w
    (Ends (roomP E ws a m) (fun w' => Only (· = R) w w') fun _ e w' => e = .returned (.tuple #[]) ∧ w' = w) := by
  have HF := hide (fault_any h 4)
  clear h
  by_cases hc : m ≤ a
  · have e : roomP E ws a m = .error (atF E ws, 4) := by unfold roomP; rw [if_pos hc]
    rw [e]
    unfold Ends
    go_enter Tryz.func100, Tryz.ntmps100
    go_wp2_with fail
    refine HF.out.mono ?_
    rintro e w2 ⟨rfl, hb⟩
    have HB := hide hb
    clear hb
    go_wp2
    exact ⟨rfl, rfl, Only.below HB.out⟩
  · have e : roomP E ws a m = .ok () := by unfold roomP; rw [if_neg hc]
    rw [e]
    unfold Ends
    have hc' : a < m := by omega
    go_enter Tryz.func100, Tryz.ntmps100
    go_wp2
    go_end0
    exact ⟨rfl, rfl⟩
set_option maxHeartbeats 2000000 in
set_option maxRecDepth 20000 in
/-- (*jdl.reader).word -/
theorem word_any {w : World} {R : Nat} {E d : Int} {B N : Nat} {ws : List Tk} (h : Rdr w R E d B N ws) (kd : Int) : Calls Tryz.prog 134 #[.pointer (some ⟨R, 0, none⟩), .int .i64 kd] w
    (Ends (wordP E kd ws) (fun w' => Only (· = R) w w') fun p e w' => e = .returned (tkV p.1) ∧ Rdr w' R E d B N p.2 ∧ Only (· = R) w w') := by
  have HBA : Hid (∀ o, Below w.heap.size w (w.alloc o)) := fun o => (Below.refl _ _).alloc (Nat.le_refl _) o
  have HF : Hid (∀ o, Calls Tryz.prog 107 #[.pointer (some ⟨R, 0, none⟩), .int .i64 20] (w.alloc o) fun e w' => e = .returned (.agg #[.int .i64 (atF E ws), .int .i64 20]) ∧ Below (w.alloc o).heap.size (w.alloc o) w') := fun o => fault_any (h.below (HBA.out o)) 20
  have HR := hide h
  obtain ⟨hN1, hN2⟩ := h.n
  obtain ⟨uo, uc, o, h1, h2, h3, h4, _⟩ := h
  have x0 : w.cell? ⟨R, 0, none⟩ = some (.slice uo ws.length uc) := by rw [cell_of h1]; rfl
  have y0 := fun ob : Obj => Below.keeps (HBA.out ob) (Nat.le_refl _) x0
  cases ws with
  | nil =>
    have e : wordP E kd [] = .error (E, 20) := rfl
    rw [e]
    unfold Ends
    clear h1 h2 h3 HR x0
    simp only [List.length_nil] at y0
    simp only [atF] at HF
    go_enter Tryz.func134, Tryz.ntmps134
    go_wp2_with fail
    refine (HF.out _).mono ?_
    rintro e w2 ⟨rfl, hb⟩
    have HB := hide hb
    clear hb
    go_wp2
    exact ⟨rfl, rfl, (Only.alloc _ _ _).trans (Only.below HB.out) (fun _ _ h => h)⟩
  | cons t r =>
    obtain ⟨g, rfl, hc, hg, hcells⟩ := h2 (by simp)
    obtain ⟨a0, a1, a2, a3⟩ := hcells 0 t rfl
    simp only [Nat.zero_mul, Nat.add_zero] at a0 a1 a2 a3
    have b0 := fun ob : Obj => Below.keeps (HBA.out ob) (Nat.le_refl _) a0
    have b1 := fun ob : Obj => Below.keeps (HBA.out ob) (Nat.le_refl _) a1
    have b2 := fun ob : Obj => Below.keeps (HBA.out ob) (Nat.le_refl _) a2
    have b3 := fun ob : Obj => Below.keeps (HBA.out ob) (Nat.le_refl _) a3
    have hRlt := HR.out.lt
    clear h1 h2 h3 x0 hcells a0 a1 a2 a3
    simp only [List.length_cons] at y0 hc
    by_cases hk : t.kind = kd
    · have e : wordP E kd (t :: r) = .ok (t, r) := by show (if t.kind = kd then _ else _) = _; rw [if_pos hk]
      rw [e]
      unfold Ends
      subst hk
      have HSK : Hid (∀ o1 o2, Calls Tryz.prog 132 #[.pointer (some ⟨R, 0, none⟩)] ((w.alloc o1).alloc o2) fun e w' => e = .returned (.tuple #[]) ∧ Rdr w' R E d B N r ∧ Only (· = R) ((w.alloc o1).alloc o2) w') := fun o1 o2 =>
        skip_any ((HR.out.below (HBA.out o1)).below ((Below.refl _ _).alloc (Nat.le_refl _) o2))
      clear HF
      obtain ⟨k0, tx, nn, ta⟩ := t
      simp only at b0 b1 b2 b3
      go_enter Tryz.func134, Tryz.ntmps134
      go_wp2_with fail
      refine (HSK.out _ _).mono ?_
      rintro e w2 ⟨rfl, hr2, ho2⟩
      have HR2 := hide hr2
      have HO2 : Hid (Only (· = R) w w2) := ((Only.alloc _ _ _).trans (Only.alloc _ _ _) (fun _ _ h => h)).trans ho2 (fun _ _ h => h)
      have hblk : w2.heap[w.heap.size + 1]? = some (.cells #[.int .i64 k0, .string tx, .int .i64 nn, .int .i64 ta] 127 (0, 0)) := by
        rw [ho2.block (w.heap.size + 1) (by simp) (by omega)]
        have := heap_alloc_new (w.alloc (.cells #[.int .i64 0, .string ⟨#[]⟩, .int .i64 0, .int .i64 0] 127)) (.cells #[.int .i64 k0, .string tx, .int .i64 nn, .int .i64 ta] 127)
        simpa using this
      have hres : w2.heap[w.heap.size]? = some (.cells #[.int .i64 0, .string ⟨#[]⟩, .int .i64 0, .int .i64 0] 127 (0, 0)) := by
        rw [ho2.block w.heap.size (by simp; omega) (by omega)]
        exact heap_keep' (heap_alloc_new w _)
      have z0 : w2.cell? ⟨w.heap.size + 1, 0, none⟩ = some (.int .i64 k0) := by rw [cell_of hblk]; rfl
      have z1 : w2.cell? ⟨w.heap.size + 1, 1, none⟩ = some (.string tx) := by rw [cell_of hblk]; rfl
      have z2 : w2.cell? ⟨w.heap.size + 1, 2, none⟩ = some (.int .i64 nn) := by rw [cell_of hblk]; rfl
      have z3 : w2.cell? ⟨w.heap.size + 1, 3, none⟩ = some (.int .i64 ta) := by rw [cell_of hblk]; rfl
      obtain ⟨⟨q0, q1, q2, q3⟩, f0, f1, f2, f3⟩ := Res0.all (w := w2) (p := w.heap.size) hres
      clear hr2 ho2 hblk hres
      go_wp2
      refine bodyPost_ret (v := tkV ⟨k0, tx, nn, ta⟩) (by simp [results, Tryz.results134, go_sem, q0, q1, q2, q3, tkV]) rfl ⟨rfl, ?_, ?_⟩
      · exact HR2.out.only (((((Below.refl N w2).setCell hN1 _).setCell hN1 _).setCell hN1 _).setCell hN1 _)
      · refine HO2.out.trans (T := (· = w.heap.size)) ?_ (fun i hi e => absurd e (by omega))
        exact (((Only.set w2 w.heap.size 0 _).trans (Only.set _ w.heap.size 1 _) (fun _ _ h => h)).trans (Only.set _ w.heap.size 2 _) (fun _ _ h => h)).trans (Only.set _ w.heap.size 3 _) (fun _ _ h => h)
    · have e : wordP E kd (t :: r) = .error ((t.at_ : Int), 20) := by show (if t.kind = kd then _ else _) = _; rw [if_neg hk]
      rw [e]
      unfold Ends
      have hk' : (t.kind != kd) = true := by simpa using hk
      obtain ⟨k0, tx, nn, ta⟩ := t
      simp only at b0 b1 b2 b3 hk hk'
      simp only [atF] at HF
      clear HR
      go_enter Tryz.func134, Tryz.ntmps134
      go_wp2_with fail
      refine (HF.out _).mono ?_
      rintro e w2 ⟨rfl, hb⟩
      have HB := hide hb
      clear hb
      go_wp2
      exact ⟨rfl, rfl, (Only.alloc _ _ _).trans (Only.below HB.out) (fun _ _ h => h)⟩
end Go.Proofs.YtkpgfhapffijkaaGreatDoor

/- Package jdl: names, numbers, times; what stands between a first word and its end. -/
namespace Go.DsJd
open Go.DsLx
def intP (E : Int) (ws : List Tk) : Except Fl (Int × List Tk) := if textF ws = ⟨#[45]⟩ then (match numP E ws.tail with | .error f => .error f | .ok (n, r) => .ok (-n, r)) else numP E ws
theorem numP_in {E : Int} {ws : List Tk} {n : Int} {r : List Tk} (h : numP E ws = .ok (n, r)) : ∃ t ∈ ws, n = t.n := by
  cases ws with
  | nil => simp [numP, wordP] at h
  | cons u r' =>
    unfold numP wordP at h
    by_cases hk : u.kind = 2
    · simp [hk] at h
      exact ⟨u, by simp, h.1.symm⟩
    · simp [hk] at h
/-- behind a part a word must stand -/
def thenP {α : Type} (E : Int) (x : ByteArray) (p : Except Fl (α × List Tk)) : Except Fl (α × List Tk) := match p with | .error f => .error f | .ok (a, r) => (match mustP E x r with | .error f => .error f | .ok r' => .ok (a, r'))
end Go.DsJd
namespace Go.Proofs.YtkpgfhapffijkaaGreatDoor
open Go.ChangeShapes Go.WideShapes Go.ChangeAt Go.RowKit Go.DsMem Go.DsLx Go.DsJd
set_option linter.unusedVariables false
/-- how the reading of a part ends -/
def PE (R : Nat) (E d : Int) (B N : Nat) {α : Type} (r : Except Fl (α × List Tk)) (V : World → α → Value → World → Prop) (w : World) : Ending → World → Prop :=
  Ends r (fun w' => Only (· = R) w w') fun p e w' => ∃ v, e = .returned v ∧ V w p.1 v w' ∧ Rdr w' R E d B N p.2 ∧ Only (· = R) w w'
def CF (K : Nat) : Prop := ∀ (args : Array Value) (w : World), (callFunc K args).run Tryz.prog w = .ok (.enter K args) w
theorem cf_of {K : Nat} {fn : Func} (hf : Tryz.prog.funcs[K]? = some fn) (hn : ¬ fn.name = "runtime.NumGoroutine") (hb : fn.body.isNone = false) : CF K := fun args w => by
  have hb' : ¬ fn.body = none := fun e => by rw [e] at hb; cases hb
  simp [callFunc, hf, hn, hb', go_sem]
theorem fld1 (a b c d : Value) (w : World) : (Instr.field 127 (.agg #[a, b, c, d]) 1).run Tryz.prog w = .ok b w := by kernel_rfl
theorem fld2 (a b c d : Value) (w : World) : (Instr.field 127 (.agg #[a, b, c, d]) 2).run Tryz.prog w = .ok c w := by kernel_rfl
/-- plain values -/
def VI (w : World) (n : Int) (v : Value) (w' : World) : Prop := v = .int .i64 n
def VS (w : World) (n : ByteArray) (v : Value) (w' : World) : Prop := v = .string n
set_option maxHeartbeats 1000000 in
set_option maxRecDepth 20000 in
/-- (*jdl.reader).name -/
theorem name_any {w : World} {R : Nat} {E d : Int} {B N : Nat} {ws : List Tk} (h : Rdr w R E d B N ws) : Calls Tryz.prog 135 #[.pointer (some ⟨R, 0, none⟩)] w (PE R E d B N (nameP E ws) VS w) := by
  have HW := hide (word_any h 1)
  clear h
  unfold nameP
  generalize wordP E 1 ws = q at *
  cases q with
  | error f =>
    unfold Ends at HW
    unfold PE Ends
    go_enter Tryz.func135, Tryz.ntmps135
    go_wp2_with fail
    refine HW.out.mono ?_
    rintro e w1 ⟨rfl, ho⟩
    have HO := hide ho
    clear ho
    go_wp2
    exact ⟨rfl, rfl, HO.out⟩
  | ok p =>
    obtain ⟨t, r⟩ := p
    unfold Ends tkV at HW
    unfold PE Ends VS
    simp only at HW ⊢
    have hfl := fld1
    go_enter Tryz.func135, Tryz.ntmps135
    go_wp2_with fail
    refine HW.out.mono ?_
    rintro e w1 ⟨rfl, hr, ho⟩
    have HR := hide hr
    have HO := hide ho
    clear hr ho
    go_wp2
    go_ret
    exact ⟨_, rfl, rfl, HR.out, HO.out⟩
set_option maxHeartbeats 1000000 in
set_option maxRecDepth 20000 in
/-- (*jdl.reader).number -/
theorem number_any {w : World} {R : Nat} {E d : Int} {B N : Nat} {ws : List Tk} (h : Rdr w R E d B N ws) : Calls Tryz.prog 99 #[.pointer (some ⟨R, 0, none⟩)] w (PE R E d B N (numP E ws) VI w) := by
  have HW := hide (word_any h 2)
  clear h
  unfold numP
  generalize wordP E 2 ws = q at *
  cases q with
  | error f =>
    unfold Ends at HW
    unfold PE Ends
    go_enter Tryz.func99, Tryz.ntmps99
    go_wp2_with fail
    refine HW.out.mono ?_
    rintro e w1 ⟨rfl, ho⟩
    have HO := hide ho
    clear ho
    go_wp2
    exact ⟨rfl, rfl, HO.out⟩
  | ok p =>
    obtain ⟨t, r⟩ := p
    unfold Ends tkV at HW
    unfold PE Ends VI
    simp only at HW ⊢
    have hfl := fld2
    go_enter Tryz.func99, Tryz.ntmps99
    go_wp2_with fail
    refine HW.out.mono ?_
    rintro e w1 ⟨rfl, hr, ho⟩
    have HR := hide hr
    have HO := hide ho
    clear hr ho
    go_wp2
    go_ret
    exact ⟨_, rfl, rfl, HR.out, HO.out⟩
set_option maxHeartbeats 1000000 in
set_option maxRecDepth 20000 in
/-- (*jdl.reader).time -/
theorem time_any {w : World} {R : Nat} {E d : Int} {B N : Nat} {ws : List Tk} (h : Rdr w R E d B N ws) : Calls Tryz.prog 98 #[.pointer (some ⟨R, 0, none⟩)] w (PE R E d B N (timeP E ws) VI w) := by
  have HW := hide (word_any h 3)
  clear h
  unfold timeP
  generalize wordP E 3 ws = q at *
  cases q with
  | error f =>
    unfold Ends at HW
    unfold PE Ends
    go_enter Tryz.func98, Tryz.ntmps98
    go_wp2_with fail
    refine HW.out.mono ?_
    rintro e w1 ⟨rfl, ho⟩
    have HO := hide ho
    clear ho
    go_wp2
    exact ⟨rfl, rfl, HO.out⟩
  | ok p =>
    obtain ⟨t, r⟩ := p
    unfold Ends tkV at HW
    unfold PE Ends VI
    simp only at HW ⊢
    have hfl := fld2
    go_enter Tryz.func98, Tryz.ntmps98
    go_wp2_with fail
    refine HW.out.mono ?_
    rintro e w1 ⟨rfl, hr, ho⟩
    have HR := hide hr
    have HO := hide ho
    clear hr ho
    go_wp2
    go_ret
    exact ⟨_, rfl, rfl, HR.out, HO.out⟩
set_option maxHeartbeats 1000000 in
set_option maxRecDepth 20000 in
/-- (*jdl.reader).integer -/
theorem integer_any {w : World} {R : Nat} {E d : Int} {B N : Nat} {ws : List Tk} (h : Rdr w R E d B N ws) (hn : ∀ t ∈ ws, 0 ≤ t.n ∧ t.n ≤ 999999999) : Calls Tryz.prog 231 #[.pointer (some ⟨R, 0, none⟩)] w (PE R E d B N (intP E ws) VI w) := by
  by_cases hc : textF ws = ⟨#[45]⟩
  · have e : intP E ws = (match numP E ws.tail with | .error f => .error f | .ok (n, r) => .ok (-n, r)) := by unfold intP; rw [if_pos hc]
    rw [e]
    cases ws with
    | nil => exact absurd hc (by decide)
    | cons t r =>
      simp only [textF] at hc
      have HT := hide (take_yes h)
      rw [hc] at HT
      have HN := hide (fun w (h : Rdr w R E d B N r) => number_any h)
      simp only [List.tail_cons]
      have hb : ∀ n r', numP E r = .ok (n, r') → 0 ≤ n ∧ n ≤ 999999999 := fun n r' hq => by
        obtain ⟨u, hu, e⟩ := numP_in hq
        have := hn u (by simp [hu])
        omega
      have HBN := hide hb
      clear h hb
      generalize numP E r = q at *
      cases q with
      | error f =>
        unfold PE Ends at HN
        unfold PE Ends
        simp only at HN ⊢
        go_enter Tryz.func231, Tryz.ntmps231
        go_wp2_with fail
        refine HT.out.mono ?_
        rintro e w1 ⟨rfl, hr, ho⟩
        have HR := hide hr
        have HO := hide ho
        clear hr ho
        go_wp2_with fail
        refine (HN.out w1 HR.out).mono ?_
        rintro e w2 ⟨rfl, ho2⟩
        have HO2 := hide (HO.out.trans ho2 (fun _ _ h => h))
        clear ho2
        go_wp2
        exact ⟨rfl, rfl, HO2.out⟩
      | ok p =>
        obtain ⟨n, r'⟩ := p
        obtain ⟨hn0, hn1⟩ := HBN.out n r' rfl
        unfold PE Ends VI at HN
        unfold PE Ends VI
        simp only at HN ⊢
        go_enter Tryz.func231, Tryz.ntmps231
        go_wp2_with fail
        refine HT.out.mono ?_
        rintro e w1 ⟨rfl, hr, ho⟩
        have HR := hide hr
        have HO := hide ho
        clear hr ho
        go_wp2_with fail
        refine (HN.out w1 HR.out).mono ?_
        rintro e w2 ⟨v, rfl, rfl, hr2, ho2⟩
        have HR2 := hide hr2
        have HO2 := hide (HO.out.trans ho2 (fun _ _ h => h))
        clear hr2 ho2
        go_wp2
        go_ret
        exact ⟨_, rfl, by first | rfl | (congr 1; omega), HR2.out, HO2.out⟩
  · have e : intP E ws = numP E ws := by unfold intP; rw [if_neg hc]
    rw [e]
    have HT := hide (take_no h hc)
    have HN := hide (number_any h)
    clear h
    generalize numP E ws = q at *
    cases q with
    | error f =>
      unfold PE Ends at HN
      unfold PE Ends
      go_enter Tryz.func231, Tryz.ntmps231
      go_wp2_with fail
      refine HT.out.mono ?_
      rintro e w1 ⟨rfl, rfl⟩
      go_wp2_with fail
      refine HN.out.mono ?_
      rintro e w2 ⟨rfl, ho2⟩
      have HO2 := hide ho2
      clear ho2
      go_wp2
      exact ⟨rfl, rfl, HO2.out⟩
    | ok p =>
      obtain ⟨n, r'⟩ := p
      unfold PE Ends VI at HN
      unfold PE Ends VI
      simp only at HN ⊢
      go_enter Tryz.func231, Tryz.ntmps231
      go_wp2_with fail
      refine HT.out.mono ?_
      rintro e w1 ⟨rfl, rfl⟩
      go_wp2_with fail
      refine HN.out.mono ?_
      rintro e w2 ⟨v, rfl, rfl, hr2, ho2⟩
      have HR2 := hide hr2
      have HO2 := hide ho2
      clear hr2 ho2
      go_wp2
      go_ret
      exact ⟨_, rfl, rfl, HR2.out, HO2.out⟩
set_option maxHeartbeats 1000000 in
set_option maxRecDepth 20000 in
/-- jdl.said[int64] -/
theorem saidI {w : World} {R : Nat} {E d : Int} {B N : Nat} {t : Tk} {r : List Tk} (h : Rdr w R E d B N (t :: r)) (K : Nat) (first cap : Array Value) (part : List Tk → Except Fl (Int × List Tk))
    (hcf : CF K) (hp : ∀ w, Rdr w R E d B N r → Calls Tryz.prog K (first ++ cap) w (PE R E d B N (part r) VI w)) :
    Calls Tryz.prog 97 #[.pointer (some ⟨R, 0, none⟩), .func (.func K) first cap] w (PE R E d B N (thenP E ⟨#[59]⟩ (part r)) VI w) := by
  have HS := hide (skip_any h)
  have HP := hide hp
  have hcf' := hcf (first ++ cap)
  have HM := hide (fun (w : World) (r : List Tk) (h : Rdr w R E d B N r) => must_any ⟨#[59]⟩ h (by decide))
  clear h hp hcf
  generalize part r = q at *
  cases q with
  | error f =>
    unfold PE Ends at HP
    unfold PE Ends thenP
    simp only at HP ⊢
    go_enter Tryz.func97, Tryz.ntmps97
    go_wp2_with fail
    refine HS.out.mono ?_
    rintro e w1 ⟨rfl, hr, ho⟩
    have HR := hide hr
    have HO := hide ho
    clear hr ho
    go_wp2_with fail
    refine (HP.out w1 HR.out).mono ?_
    rintro e w2 ⟨rfl, ho2⟩
    have HO2 := hide (HO.out.trans ho2 (fun _ _ h => h))
    clear ho2
    go_wp2
    exact ⟨rfl, rfl, HO2.out⟩
  | ok p =>
    obtain ⟨n, r'⟩ := p
    unfold PE Ends VI at HP
    unfold thenP
    simp only at HP ⊢
    have HM2 := hide (fun (w : World) h => HM.out w r' h)
    clear HM
    generalize mustP E ⟨#[59]⟩ r' = q2 at *
    cases q2 with
    | error f =>
      unfold Ends at HM2
      unfold PE Ends
      simp only at HM2 ⊢
      go_enter Tryz.func97, Tryz.ntmps97
      go_wp2_with fail
      refine HS.out.mono ?_
      rintro e w1 ⟨rfl, hr, ho⟩
      have HR := hide hr
      have HO := hide ho
      clear hr ho
      go_wp2_with fail
      refine (HP.out w1 HR.out).mono ?_
      rintro e w2 ⟨v, rfl, rfl, hr2, ho2⟩
      have HR2 := hide hr2
      have HO2 := hide (HO.out.trans ho2 (fun _ _ h => h))
      clear hr2 ho2
      go_wp2_with fail
      refine (HM2.out w2 HR2.out).mono ?_
      rintro e w3 ⟨rfl, ho3⟩
      have HO3 := hide (HO2.out.trans ho3 (fun _ _ h => h))
      clear ho3
      go_wp2
      exact ⟨rfl, rfl, HO3.out⟩
    | ok r2 =>
      unfold Ends at HM2
      unfold PE Ends VI
      simp only at HM2 ⊢
      go_enter Tryz.func97, Tryz.ntmps97
      go_wp2_with fail
      refine HS.out.mono ?_
      rintro e w1 ⟨rfl, hr, ho⟩
      have HR := hide hr
      have HO := hide ho
      clear hr ho
      go_wp2_with fail
      refine (HP.out w1 HR.out).mono ?_
      rintro e w2 ⟨v, rfl, rfl, hr2, ho2⟩
      have HR2 := hide hr2
      have HO2 := hide (HO.out.trans ho2 (fun _ _ h => h))
      clear hr2 ho2
      go_wp2_with fail
      refine (HM2.out w2 HR2.out).mono ?_
      rintro e w3 ⟨rfl, hr3, ho3⟩
      have HR3 := hide hr3
      have HO3 := hide (HO2.out.trans ho3 (fun _ _ h => h))
      clear hr3 ho3
      go_wp2
      go_ret
      exact ⟨_, rfl, rfl, HR3.out, HO3.out⟩
end Go.Proofs.YtkpgfhapffijkaaGreatDoor

/- Package jdl: lists of numbers. -/
namespace Go.DsJd
open Go.DsLx
/-- parts with a word between any two, n at most -/
def listP {α : Type} (E : Int) (sep : ByteArray) (part : List Tk → Except Fl (α × List Tk)) : Nat → List Tk → Except Fl (List α × List Tk)
  | 0, ws => .error (atF E ws, 4)
  | n + 1, ws => match part ws with
    | .error f => .error f
    | .ok (a, r) => if textF r = sep then (match listP E sep part n r.tail with | .error f => .error f | .ok (l, r2) => .ok (a :: l, r2)) else .ok ([a], r)
def accP {α : Type} (acc : List α) (x : Except Fl (List α × List Tk)) : Except Fl (List α × List Tk) := match x with | .error f => .error f | .ok (l, r) => .ok (acc ++ l, r)
theorem acc_full {α : Type} (E : Int) (sep : ByteArray) (part : List Tk → Except Fl (α × List Tk)) (acc : List α) (ws : List Tk) : accP acc (listP E sep part 0 ws) = .error (atF E ws, 4) := rfl
theorem acc_bad {α : Type} {E : Int} {sep : ByteArray} {part : List Tk → Except Fl (α × List Tk)} {ws : List Tk} {f : Fl} (acc : List α) (n : Nat) (h : part ws = .error f) : accP acc (listP E sep part (n + 1) ws) = .error f := by
  unfold listP; rw [h]; rfl
theorem acc_end {α : Type} {E : Int} {sep : ByteArray} {part : List Tk → Except Fl (α × List Tk)} {ws r : List Tk} {a : α} (acc : List α) (n : Nat) (h : part ws = .ok (a, r)) (hs : ¬ textF r = sep) : accP acc (listP E sep part (n + 1) ws) = .ok (acc ++ [a], r) := by
  unfold listP; rw [h]; simp only [if_neg hs]; rfl
theorem acc_more {α : Type} {E : Int} {sep : ByteArray} {part : List Tk → Except Fl (α × List Tk)} {ws r : List Tk} {a : α} (acc : List α) (n : Nat) (h : part ws = .ok (a, r)) (hs : textF r = sep) : accP acc (listP E sep part (n + 1) ws) = accP (acc ++ [a]) (listP E sep part n r.tail) := by
  conv => lhs; unfold listP
  rw [h]
  simp only [if_pos hs]
  cases listP E sep part n r.tail with
  | error f => rfl
  | ok p => obtain ⟨l, r2⟩ := p; simp [accP]
end Go.DsJd
namespace Go.Proofs.YtkpgfhapffijkaaGreatDoor
open Go.ChangeShapes Go.WideShapes Go.ChangeAt Go.RowKit Go.DsMem Go.DsLx Go.DsJd
set_option linter.unusedVariables false
theorem infoI64 : (Tryz.prog.info? 2).map (fun i => (i.zero, i.size, i.bytes)) = some (some (.int .i64 0), 1, 8) := by kernel_rfl
def slLen : Value → Nat
  | .slice _ n _ => n
  | _ => 0
/-- numbers of one's own -/
def VL (w : World) (l : List Int) (v : Value) (w' : World) : Prop := ∃ uo uc, v = .slice uo l.length uc ∧ w'.ownsRow w.heap.size 2 1 v l.length (l.map (.int .i64))
theorem own_step {w w' : World} {B R : Nat} {e : TypeId} {v : Value} {n : Nat} {xs : List Value} (h : w.ownsRow B e 1 v n xs) (ho : Only (· = R) w w') (hR : R < B) : w'.ownsRow B e 1 v n xs :=
  own_only h ho (fun k hk e => by have := (h.lt k hk).1; omega)
set_option maxHeartbeats 4000000 in
set_option maxRecDepth 20000 in
/-- jdl.list[int64] -/
theorem listI {w : World} {R : Nat} {E d : Int} {B N : Nat} {ws : List Tk} (h : Rdr w R E d B N ws) (K : Nat) (first cap : Array Value) (part : List Tk → Except Fl (Int × List Tk)) (sep : ByteArray) (hsep : sep ≠ ⟨#[]⟩) (M : Nat) (hM : M ≤ 100000) (P : List Tk → Prop) (hP0 : P ws) (hPn : ∀ ws a r, P ws → part ws = .ok (a, r) → P r ∧ P r.tail)
    (hcf : CF K) (hp : ∀ w ws, P ws → Rdr w R E d B N ws → Calls Tryz.prog K (first ++ cap) w (PE R E d B N (part ws) VI w)) :
    Calls Tryz.prog 228 #[.pointer (some ⟨R, 0, none⟩), .string sep, .int .i64 M, .func (.func K) first cap] w (PE R E d B N (listP E sep part M ws) VL w) := by
  have HP := hide hp
  have hcf' := hcf (first ++ cap)
  have HPN := hide hPn
  have HP0 := hide hP0
  obtain ⟨hN1, hN2⟩ := h.n
  have HR0 := hide h
  obtain ⟨Q, hQ⟩ : ∃ Q, listP E sep part M ws = Q := ⟨_, rfl⟩
  have HQ : Hid (accP [] (listP E sep part M ws) = Q) := by
    refine hide ?_
    rw [← hQ]
    cases listP E sep part M ws with
    | error f => rfl
    | ok p => rfl
  rw [hQ]
  clear h hp hcf hPn hP0 hQ
  obtain ⟨i0, hi0, hz0, hz1, hz2⟩ := info_parts infoI64
  go_enter Tryz.func228, Tryz.ntmps228
  go_wp2_with fail
  go_loopw [9] (fun tl wr => ∃ (acc : List Int) (uo : Option Addr) (uc : Nat) (us : List Tk), acc.length ≤ M ∧ tl = .slice uo acc.length uc ∧ P us ∧ wr.ownsRow w.heap.size 2 1 (.slice uo acc.length uc) acc.length (acc.map (.int .i64)) ∧ Rdr wr R E d B N us ∧ Only (· = R) w wr ∧ accP acc (listP E sep part (M - acc.length) us) = Q) (fun tl _ => M - slLen tl)
  case atStart => exact ⟨[], none, 0, ws, Nat.zero_le _, rfl, HP0.out, World.ownsRow_nil _ _ _ _, HR0.out, Only.refl _ _, HQ.out⟩
  case round =>
    obtain ⟨acc, uo, uc, us, hal, rfl, hPu, hown, hrd, ho, hq⟩ := hrel
    have HOWN := hide hown
    have HRD := hide hrd
    have HO := hide ho
    have HQ2 := hide hq
    have HPU := hide hPu
    have hws := ho.size
    clear hown hrd ho hq hPu
    have HRM := hide (room_any HRD.out acc.length M)
    by_cases hfull : M ≤ acc.length
    · have e : roomP E us acc.length M = .error (atF E us, 4) := by unfold roomP; rw [if_pos (by omega)]
      have hQe : Q = .error (atF E us, 4) := by
        rw [← HQ2.out, show M - acc.length = 0 by omega]; exact acc_full E sep part acc us
      have HQE := hide hQe
      rw [e] at HRM
      unfold Ends at HRM
      clear e hQe
      go_wp2_with fail
      refine HRM.out.mono ?_
      rintro e w1 ⟨rfl, ho1⟩
      have HO1 := hide (HO.out.trans ho1 (fun _ _ h => h))
      clear ho1
      go_wp2
      refine ⟨rfl, ?_⟩
      rw [HQE.out]
      exact ⟨rfl, HO1.out⟩
    · have e : roomP E us acc.length M = .ok () := by unfold roomP; rw [if_neg (by omega)]
      rw [e] at HRM
      unfold Ends at HRM
      clear e
      obtain ⟨n, hn⟩ : ∃ n, M - acc.length = n + 1 := ⟨M - acc.length - 1, by omega⟩
      rw [hn] at HQ2
      have HPP := hide (fun w h => HP.out w us HPU.out h)
      have HPX := hide (fun a r => HPN.out us a r HPU.out)
      obtain ⟨q, hq⟩ : ∃ q, part us = q := ⟨_, rfl⟩
      rw [hq] at HPP HPX
      cases q with
      | error f =>
        have HQE : Hid (Q = .error f) := by refine hide ?_; rw [← HQ2.out]; exact acc_bad acc n hq
        unfold PE Ends at HPP
        simp only at HPP
        clear hq
        go_wp2_with fail
        refine HRM.out.mono ?_
        rintro e w1 ⟨rfl, rfl⟩
        go_wp2_with fail
        refine (HPP.out w1 HRD.out).mono ?_
        rintro e w2 ⟨rfl, ho2⟩
        have HO2 := hide (HO.out.trans ho2 (fun _ _ h => h))
        clear ho2
        go_wp2
        refine ⟨rfl, ?_⟩
        rw [HQE.out]
        exact ⟨rfl, HO2.out⟩
      | ok p =>
        obtain ⟨a, r⟩ := p
        obtain ⟨hp1, hp2⟩ := HPX.out a r rfl
        have HP1 := hide hp1
        have HP2 := hide hp2
        unfold PE Ends VI at HPP
        simp only at HPP
        have HEND : Hid (¬ textF r = sep → Q = .ok (acc ++ [a], r)) := fun hs => by rw [← HQ2.out]; exact acc_end acc n hq hs
        have HMORE : Hid (textF r = sep → accP (acc ++ [a]) (listP E sep part n r.tail) = Q) := fun hs => by rw [← HQ2.out]; exact (acc_more acc n hq hs).symm
        clear hq hp1 hp2 HPX
        go_wp2_with fail
        refine HRM.out.mono ?_
        rintro e w1 ⟨rfl, rfl⟩
        go_wp2_with fail
        refine (HPP.out w1 HRD.out).mono ?_
        rintro e w2 ⟨v, rfl, rfl, hr2, ho2⟩
        have HR2 := hide hr2
        have HO2 := hide (HO.out.trans ho2 (fun _ _ h => h))
        have HOW2 := hide (own_step HOWN.out ho2 (by omega))
        have hs2 := ho2.size
        clear hr2 ho2
        go_wp2_with (at_builtin; refine Hid.out ?_)
        refine hide ?_
        have hrow : (w2.alloc (.cells #[.int .i64 a] 2)).ownsRow w.heap.size 2 1 (.slice uo acc.length uc) acc.length (acc.map (.int .i64)) := own_below HOW2.out ((Below.refl _ _).alloc (Nat.le_refl _) _)
        refine wpList_append_own _ rfl _ _ 46 rfl w.heap.size 2 i0 _ 1 8 Tryz.underlying46 hi0 hz0 hz1 hz2 rfl (by decide) _ acc.length _ rfl hrow ⟨w2.heap.size, 0, none⟩ 1 1 [.int .i64 a] rfl rfl (World.news_of_block (cs := #[.int .i64 a]) (t := 2) (fr := (0, 0)) (heap_alloc_new w2 _)) (by intro u hu; simp only [List.mem_cons, List.not_mem_nil, or_false] at hu; subst hu; rfl) (by unfold maxLen; omega) (by omega) (by simp; omega) ?_
        intro v' w3 hown3 hgr _
        obtain ⟨uo3, uc3, rfl⟩ : ∃ uo3 uc3, v' = .slice uo3 (acc ++ [a]).length uc3 := by
          rcases hown3.2 with ⟨rfl, h0⟩ | ⟨g, cap, cur, rfl, _⟩
          · omega
          · exact ⟨some ⟨g, 0, none⟩, cap, by simp⟩
        have hl1 : (acc ++ [a]).length = acc.length + 1 := by simp
        have hlt2 : ∀ k, (Value.slice uo acc.length uc).ownBlock = some k → w.heap.size ≤ k ∧ k < w2.heap.size := HOW2.out.lt
        have HO3 : Hid (Only (· = R) w w3) := by
          refine hide (((HO2.out.trans (Only.alloc _ _ _) (fun _ _ h => h)).trans (Only.grown hgr) (fun i hi e => ?_)))
          have := (hlt2 i e).1
          omega
        have HR3 : Hid (Rdr w3 R E d B N r) := by
          refine hide ((HR2.out.below ((Below.refl _ _).alloc (Nat.le_refl _) (.cells #[.int .i64 a] 2))).only ?_)
          exact (Only.grown hgr).toBelow (by simp; omega) (fun i e => by have := (hlt2 i e).1; omega)
        have HOW3 : Hid (w3.ownsRow w.heap.size 2 1 (.slice uo3 (acc ++ [a]).length uc3) (acc ++ [a]).length ((acc ++ [a]).map (.int .i64))) := by
          have h3 := hown3
          rw [← hl1] at h3
          refine hide ?_
          rw [List.map_append]
          exact h3
        clear hown3 hgr hlt2 hrow HR2 HOW2 HOWN
        by_cases hs : textF r = sep
        · have HM2 := hide (HMORE.out hs)
          cases r with
          | nil => exact absurd hs.symm hsep
          | cons t r' =>
            simp only [textF] at hs
            have HTK := hide (take_yes HR3.out)
            rw [hs] at HTK
            simp only [List.tail_cons] at HM2 HP2
            go_wp2_with fail
            refine HTK.out.mono ?_
            rintro e w4 ⟨rfl, hr4, ho4⟩
            have HR4 := hide hr4
            have HO4 := hide (HO3.out.trans ho4 (fun _ _ h => h))
            have HOW4 := hide (own_step HOW3.out ho4 (by omega))
            clear hr4 ho4
            go_wp2
            go_roundw
            case rel => exact ⟨acc ++ [a], uo3, uc3, r', by simp; omega, by rw [hl1], HP2.out, HOW4.out, HR4.out, HO4.out, by rw [show M - (acc ++ [a]).length = n by simp; omega]; exact HM2.out⟩
            case measure => simp [slLen]; omega
        · have HE2 := hide (HEND.out hs)
          have HTK := hide (take_no HR3.out hs)
          go_wp2_with fail
          refine HTK.out.mono ?_
          rintro e w4 ⟨rfl, rfl⟩
          go_wp2
          go_ret
          rw [HE2.out]
          have h5 := HOW3.out
          rw [hl1] at h5
          refine ⟨.slice uo3 (acc.length + 1) uc3, rfl, ⟨uo3, uc3, by rw [hl1], ?_⟩, HR3.out, HO3.out⟩
          rw [hl1]
          exact h5
end Go.Proofs.YtkpgfhapffijkaaGreatDoor

/- Package jdl: one of some words. -/
namespace Go.DsJd
open Go.DsLx
def choiceP (E : Int) (lits : List ByteArray) (ws : List Tk) : Except Fl (Int × List Tk) :=
  match lits.findIdx? (fun x => decide (textF ws = x)) with
  | some i => .ok ((i : Int), ws.tail)
  | none => .error (atF E ws, 20)
theorem choice_hit {E : Int} {lits : List ByteArray} {ws : List Tk} {i : Nat} (hi : i < lits.length) (h1 : textF ws = lits[i]) (h2 : ∀ j (hj : j < lits.length), j < i → ¬ textF ws = lits[j]) : choiceP E lits ws = .ok ((i : Int), ws.tail) := by
  unfold choiceP
  have : lits.findIdx? (fun x => decide (textF ws = x)) = some i := by
    rw [List.findIdx?_eq_some_iff_getElem]
    exact ⟨hi, by simpa using h1, fun j hj => by simpa using h2 j (by omega) hj⟩
  rw [this]
theorem choice_none {E : Int} {lits : List ByteArray} {ws : List Tk} (h2 : ∀ j (hj : j < lits.length), ¬ textF ws = lits[j]) : choiceP E lits ws = .error (atF E ws, 20) := by
  unfold choiceP
  have : lits.findIdx? (fun x => decide (textF ws = x)) = none := by
    rw [List.findIdx?_eq_none_iff]
    intro x hx
    obtain ⟨j, hj, rfl⟩ := List.mem_iff_getElem.1 hx
    simpa using h2 j hj
  rw [this]
end Go.DsJd
namespace Go.Proofs.YtkpgfhapffijkaaGreatDoor
open Go.ChangeShapes Go.WideShapes Go.ChangeAt Go.RowKit Go.DsMem Go.DsLx Go.DsJd
set_option linter.unusedVariables false
set_option maxHeartbeats 4000000 in
set_option maxRecDepth 20000 in
/-- (*jdl.reader).choice -/
theorem choice_any {w : World} {R : Nat} {E d : Int} {B N : Nat} {ws : List Tk} (h : Rdr w R E d B N ws) (lits : List ByteArray) (g uc : Nat) (hl : lits.length ≤ 1000) (hc : lits.length ≤ uc) (hne : ∀ x ∈ lits, x ≠ ⟨#[]⟩) (hcells : ∀ (j : Nat) x, lits[j]? = some x → w.cell? ⟨g, j, none⟩ = some (.string x)) :
    Calls Tryz.prog 189 #[.pointer (some ⟨R, 0, none⟩), .slice (some ⟨g, 0, none⟩) lits.length uc] w (PE R E d B N (choiceP E lits ws) VI w) := by
  have HR := hide h
  have HC := hide hcells
  have HNE := hide hne
  have HF := hide (fault_any h 20)
  obtain ⟨Q, hQ⟩ : ∃ Q, choiceP E lits ws = Q := ⟨_, rfl⟩
  have HQ := hide hQ
  rw [hQ]
  clear h hcells hne hQ
  go_enter Tryz.func189, Tryz.ntmps189
  go_wp2_with fail
  go_loopw [9] (fun ti wr => ∃ i : Nat, i ≤ lits.length ∧ ti = .int .i64 i ∧ wr = w ∧ ∀ j (hj : j < lits.length), j < i → ¬ textF ws = lits[j]) (fun ti _ => lits.length - (intOf ti).toNat)
  case atStart => exact ⟨0, Nat.zero_le _, rfl, rfl, fun j hj h => by omega⟩
  case round =>
    obtain ⟨i, hi, rfl, rfl, hbef⟩ := hrel
    have HBEF := hide hbef
    clear hbef
    by_cases hlt : i < lits.length
    · obtain ⟨x, hx⟩ : ∃ x, lits[i] = x := ⟨_, rfl⟩
      have hx' : lits[i]? = some x := by rw [List.getElem?_eq_getElem hlt, hx]
      have c0 := HC.out i x hx'
      have hxn : x ≠ ⟨#[]⟩ := HNE.out x (by rw [← hx]; exact List.getElem_mem hlt)
      by_cases hs : textF ws = x
      · have HQE : Hid (Q = .ok ((i : Int), ws.tail)) := by refine hide ?_; rw [← HQ.out]; exact choice_hit hlt (by rw [hx]; exact hs) HBEF.out
        cases ws with
        | nil => exact absurd hs.symm hxn
        | cons t r =>
          simp only [textF] at hs
          have HTK := hide (take_yes HR.out)
          rw [hs] at HTK
          clear hs hx hx'
          simp only [List.tail_cons] at HQE
          go_wp2_with fail
          refine HTK.out.mono ?_
          rintro e w4 ⟨rfl, hr4, ho4⟩
          have HR4 := hide hr4
          have HO4 := hide ho4
          clear hr4 ho4
          go_wp2
          go_ret
          rw [HQE.out]
          exact ⟨_, rfl, rfl, HR4.out, HO4.out⟩
      · have HTK := hide (take_no HR.out hs)
        have HB2 : Hid (∀ j (hj : j < lits.length), j < i + 1 → ¬ textF ws = lits[j]) := fun j hj hji => by
          by_cases e : j = i
          · subst e; rw [hx]; exact hs
          · exact HBEF.out j hj (by omega)
        clear hs hx hx'
        go_wp2_with fail
        refine HTK.out.mono ?_
        rintro e w4 ⟨rfl, rfl⟩
        go_wp2
        go_roundw
        case rel => exact ⟨i + 1, by omega, by go_num, trivial, HB2.out⟩
        case measure => simp [intOf]; omega
    · have HQE : Hid (Q = .error (atF E ws, 20)) := by refine hide ?_; rw [← HQ.out]; exact choice_none (fun j hj => HBEF.out j hj (by omega))
      go_wp2_with fail
      refine HF.out.mono ?_
      rintro e w2 ⟨rfl, hb⟩
      have HB := hide hb
      clear hb
      go_wp2
      refine ⟨rfl, ?_⟩
      rw [HQE.out]
      exact ⟨rfl, Only.below HB.out⟩
def weekL : List ByteArray := [⟨#[109, 111, 110]⟩, ⟨#[116, 117, 101]⟩, ⟨#[119, 101, 100]⟩, ⟨#[116, 104, 117]⟩, ⟨#[102, 114, 105]⟩, ⟨#[115, 97, 116]⟩, ⟨#[115, 117, 110]⟩]
def strs (l : List ByteArray) : Array Value := (l.map Value.string).toArray
theorem strs_cells (w : World) (l : List ByteArray) (t : TypeId) (j : Nat) (x : ByteArray) (h : l[j]? = some x) : (w.alloc (.cells (strs l) t)).cell? ⟨w.heap.size, j, none⟩ = some (.string x) := by
  rw [cell_of (heap_alloc_new w _)]
  simp [strs, h]
set_option maxHeartbeats 1000000 in
/-- jdl.weekdayWords -/
theorem weekWords (w : World) : Calls Tryz.prog 115 #[] w fun e w' => e = .returned (.slice (some ⟨w.heap.size, 0, none⟩) 7 7) ∧ w' = w.alloc (.cells (strs weekL) 9) := by
  go_enter Tryz.func115, Tryz.ntmps115
  go_wp2
  go_ret
  exact ⟨rfl, rfl⟩
set_option maxHeartbeats 1000000 in
set_option maxRecDepth 20000 in
/-- (*jdl.reader).weekday -/
theorem weekday_any {w : World} {R : Nat} {E d : Int} {B N : Nat} {ws : List Tk} (h : Rdr w R E d B N ws) : Calls Tryz.prog 229 #[.pointer (some ⟨R, 0, none⟩)] w (PE R E d B N (choiceP E weekL ws) VI w) := by
  have HW := hide (weekWords w)
  have HC : Hid (Calls Tryz.prog 189 #[.pointer (some ⟨R, 0, none⟩), .slice (some ⟨w.heap.size, 0, none⟩) 7 7] (w.alloc (.cells (strs weekL) 9)) (PE R E d B N (choiceP E weekL ws) VI (w.alloc (.cells (strs weekL) 9)))) :=
    choice_any (h.below ((Below.refl _ _).alloc (Nat.le_refl _) _)) weekL w.heap.size 7 (by decide) (by decide) (by decide) (fun j x hx => strs_cells w weekL _ j x hx)
  have HA : Hid (Only (· = R) w (w.alloc (.cells (strs weekL) 9))) := Only.alloc _ _ _
  clear h
  generalize w.alloc (.cells (strs weekL) 9) = wA at *
  generalize choiceP E weekL ws = q at *
  go_enter Tryz.func229, Tryz.ntmps229
  go_wp2_with fail
  refine HW.out.mono ?_
  rintro e w1 ⟨rfl, rfl⟩
  go_wp2_with fail
  refine HC.out.mono ?_
  intro e w2 hz
  cases q with
  | error f =>
    obtain ⟨rfl, ho⟩ := hz
    have HO := hide (HA.out.trans ho (fun _ _ h => h))
    clear ho
    go_wp2
    exact ⟨rfl, rfl, HO.out⟩
  | ok p =>
    obtain ⟨v, rfl, hv, hr, ho⟩ := hz
    unfold VI at hv
    subst hv
    have HO := hide (HA.out.trans ho (fun _ _ h => h))
    have HR := hide hr
    clear ho hr
    go_wp2
    go_ret
    exact ⟨_, rfl, rfl, HR.out, HO.out⟩
end Go.Proofs.YtkpgfhapffijkaaGreatDoor

/- Nodes as trees, where they lie (out of CdA and CgA, for seats without package cal). -/
namespace Go.DsMk
/-- a node -/
inductive Nd where
  | mk (op : Int) (ns : List Int) (kids : List Nd) (name : ByteArray)
def Nd.op : Nd → Int | .mk o _ _ _ => o
end Go.DsMk
namespace Go.Proofs.YtkpgfhapffijkaaGreatDoor
open Go.ChangeShapes Go.WideShapes Go.ChangeAt Go.RowKit Go.DsMem Go.DsMk
set_option linter.unusedVariables false
def ndV (op : Int) (no : Option Addr) (nl nc : Nat) (ko : Option Addr) (kl kc : Nat) (nm : ByteArray) : Value := .agg #[.int .i64 op, .slice no nl nc, .slice ko kl kc, .string nm]
/-- a node's value -/
structure NVal where
  op : Int
  no : Option Addr
  nl : Nat
  nc : Nat
  ko : Option Addr
  kl : Nat
  kc : Nat
  nm : ByteArray
def NVal.val (v : NVal) : Value := ndV v.op v.no v.nl v.nc v.ko v.kl v.kc v.nm
/-- the node's value lies at this place -/
structure NIn (w : World) (g o : Nat) (v : NVal) : Prop where
  c0 : w.cell? ⟨g, o, none⟩ = some (.int .i64 v.op)
  c1 : w.cell? ⟨g, o + 1, none⟩ = some (.slice v.no v.nl v.nc)
  c2 : w.cell? ⟨g, o + 2, none⟩ = some (.slice v.ko v.kl v.kc)
  c3 : w.cell? ⟨g, o + 3, none⟩ = some (.string v.nm)
theorem NIn.mono {w w' : World} {g o : Nat} {v : NVal} (h : NIn w g o v) (hc : ∀ a u, w.cell? a = some u → w'.cell? a = some u) : NIn w' g o v := ⟨hc _ _ h.c0, hc _ _ h.c1, hc _ _ h.c2, hc _ _ h.c3⟩
/-- the value v reads as the node t -/
inductive NdAt (w : World) : NVal → Nd → Prop
  | mk (op : Int) (ns : List Int) (kids : List Nd) (nm : ByteArray) (no : Option Addr) (nc : Nat) (ko : Option Addr) (kc : Nat) (g o : Nat) (K : Nat → NVal)
      (hn : RdI w (.slice no ns.length nc) ns) (hnl : ns.length ≤ 17592186043904) (hkl : kids.length ≤ 17592186043904) (hkc : kids.length ≤ kc) (hko : 0 < kids.length → ko = some ⟨g, o, none⟩)
      (hc : ∀ j, j < kids.length → NIn w g (o + j * 4) (K j)) (hk : ∀ j (hj : j < kids.length), NdAt w (K j) kids[j]) :
      NdAt w ⟨op, no, ns.length, nc, ko, kids.length, kc, nm⟩ (.mk op ns kids nm)
theorem NdAt.mono {w w' : World} (hc : ∀ a u, w.cell? a = some u → w'.cell? a = some u) {v : NVal} {t : Nd} (h : NdAt w v t) : NdAt w' v t := by
  induction h with
  | mk op ns kids nm no nc ko kc g o K hn hnl hkl hkc hko hcs _ ih => exact .mk op ns kids nm no nc ko kc g o K (hn.mono hc) hnl hkl hkc hko (fun j hj => (hcs j hj).mono hc) ih
theorem NdAt.grew {w w' : World} {v : NVal} {t : Nd} (h : NdAt w v t) (hb : Below w.heap.size w w') : NdAt w' v t := h.mono fun _ _ hc => Below.keeps hb (Nat.le_refl _) hc
theorem add_block (a : Addr) (j : Nat) : (a.add j).block = a.block := by unfold Addr.add; split <;> rfl
/-- v reads as t, all of it in blocks of B -/
inductive NdOn (B : Nat → Prop) (w : World) : NVal → Nd → Prop
  | mk (op : Int) (ns : List Int) (kids : List Nd) (nm : ByteArray) (no : Option Addr) (nc : Nat) (ko : Option Addr) (kc : Nat) (g : Nat) (K : Nat → NVal)
      (hn : RdI w (.slice no ns.length nc) ns) (hnB : ∀ a, no = some a → B a.block) (hnl : ns.length ≤ 17592186043904) (hkl : kids.length ≤ 17592186043904) (hkc : kids.length ≤ kc)
      (hko : 0 < kids.length → ko = some ⟨g, 0, none⟩) (hkB : 0 < kids.length → B g)
      (hc : ∀ j, j < kids.length → NIn w g (0 + j * 4) (K j)) (hk : ∀ j (hj : j < kids.length), NdOn B w (K j) kids[j]) :
      NdOn B w ⟨op, no, ns.length, nc, ko, kids.length, kc, nm⟩ (.mk op ns kids nm)
theorem NdOn.at_ {B : Nat → Prop} {w : World} {v : NVal} {t : Nd} (h : NdOn B w v t) : NdAt w v t := by
  induction h with
  | mk op ns kids nm no nc ko kc g K hn hnB hnl hkl hkc hko hkB hc _ ih => exact .mk op ns kids nm no nc ko kc g 0 K hn hnl hkl hkc hko hc ih
theorem rdI_on {w w' : World} {no : Option Addr} {n c : Nat} {l : List Int} {B : Nat → Prop} (h : RdI w (.slice no n c) l) (hB : ∀ a, no = some a → B a.block) (hc : ∀ a u, B a.block → w.cell? a = some u → w'.cell? a = some u) : RdI w' (.slice no n c) l := by
  obtain ⟨ao, cap, hs, hl, hn, hr⟩ := h
  refine ⟨ao, cap, hs, hl, hn, fun a ha j u hu => hc _ _ ?_ (hr a ha j u hu)⟩
  rw [add_block]
  simp only [Value.slice.injEq] at hs
  exact hB a (by rw [hs.1, ha])
theorem NdOn.mono {B B' : Nat → Prop} {w w' : World} (hB : ∀ b, B b → B' b) (hc : ∀ a u, B a.block → w.cell? a = some u → w'.cell? a = some u) {v : NVal} {t : Nd} (h : NdOn B w v t) : NdOn B' w' v t := by
  induction h with
  | mk op ns kids nm no nc ko kc g K hn hnB hnl hkl hkc hko hkB hcs _ ih =>
    exact .mk op ns kids nm no nc ko kc g K (rdI_on hn hnB hc) (fun a ha => hB _ (hnB a ha)) hnl hkl hkc hko (fun h0 => hB _ (hkB h0))
      (fun j hj => by
        have hb := hkB (by omega)
        have := hcs j hj
        exact ⟨hc _ _ hb this.c0, hc _ _ hb this.c1, hc _ _ hb this.c2, hc _ _ hb this.c3⟩) ih
/-- a node's cells -/
def nvC (v : NVal) : List Value := [.int .i64 v.op, .slice v.no v.nl v.nc, .slice v.ko v.kl v.kc, .string v.nm]
def rowC (K : Nat → NVal) : Nat → List Value
  | 0 => []
  | i + 1 => rowC K i ++ nvC (K i)
theorem rowC_len (K : Nat → NVal) : ∀ i, (rowC K i).length = i * 4
  | 0 => rfl
  | i + 1 => by rw [rowC, List.length_append, rowC_len K i]; simp [nvC]; omega
theorem rowC_at (K : Nat → NVal) (k : Nat) (hk : k < 4) : ∀ i j, j < i → (rowC K i)[j * 4 + k]? = (nvC (K j))[k]?
  | 0, j, h => by omega
  | i + 1, j, h => by
    have hl := rowC_len K i
    rw [rowC]
    by_cases e : j = i
    · subst e
      rw [List.getElem?_append_right (by omega), hl]
      congr 1; omega
    · rw [List.getElem?_append_left (by omega)]
      exact rowC_at K k hk i j (by omega)
theorem rowC_cong {K K' : Nat → NVal} : ∀ i, (∀ j, j < i → K j = K' j) → rowC K i = rowC K' i
  | 0, _ => rfl
  | i + 1, h => by rw [rowC, rowC, rowC_cong i (fun j hj => h j (by omega)), h i (by omega)]
theorem nvC_one (v : NVal) : ∀ u ∈ nvC v, u.oneCell' = true := by
  intro u hu
  simp only [nvC, List.mem_cons, List.not_mem_nil, or_false] at hu
  rcases hu with rfl | rfl | rfl | rfl <;> rfl
/-- a row of nodes holds each -/
theorem rowN {w : World} {B : Nat} {e : TypeId} {g n c : Nat} {K : Nat → NVal} (h : w.ownsRow B e 4 (.slice (some ⟨g, 0, none⟩) n c) n (rowC K n)) (j : Nat) (hj : j < n) : NIn w g (0 + j * 4) (K j) := by
  have key : ∀ k u, k < 4 → (nvC (K j))[k]? = some u → w.cell? ⟨g, 0 + j * 4 + k, none⟩ = some u := fun k u hk hu => by
    have := h.cells (g := g) rfl (j * 4 + k) u (by rw [rowC_at K k hk n j hj]; exact hu)
    rw [add_mk] at this
    rw [← this]; congr 2; omega
  exact ⟨key 0 _ (by decide) rfl, key 1 _ (by decide) rfl, key 2 _ (by decide) rfl, key 3 _ (by decide) rfl⟩
end Go.Proofs.YtkpgfhapffijkaaGreatDoor
