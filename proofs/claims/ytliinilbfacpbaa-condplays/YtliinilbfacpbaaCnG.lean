/- Law 11: do: a call to both (written by gence.py). -/
import Derived.Test.YtliinilbfacpbaaCnD
import Derived.Test.YtliinilbfacpbaaCmB
namespace Go.Proofs.Ytliinilbfacpbaa
open Go.ChangeShapes Go.WideShapes Go.ChangeAt Go.RowKit Go.DsMem Go.DsCo
set_option linter.unusedVariables false
/-- the store and the reference's lie apart -/
theorem st_apart {w : World} {p B pr b : Nat} {uo : Option Addr} {uc : Nat} {L M : List Cn} (h : StAt w p B L) (h' : RfSt w pr b uo uc M) : ¬ pr = p ∧ ¬ pr = B ∧ ∀ g o, uo = some ⟨g, o, none⟩ → ¬ g = B := by
  obtain ⟨D, ⟨es, clock, h1, h2⟩, h3⟩ := h.sto
  refine ⟨fun e => ?_, fun e => ?_, fun g o e e2 => ?_⟩
  · have a := h.c0
    have c := h'.c0
    rw [← e, c] at a
    cases a
  · have a := h'.hd
    rw [e, h1] at a
    cases a
  · rcases h'.own with ⟨e3, _⟩ | ⟨g3, e3, hr3⟩
    · rw [e3] at e; cases e
    · rw [e3] at e
      have : g3 = g := by simpa using congrArg (fun x : Option Addr => x.map Addr.block) e
      obtain ⟨cur, hc, _⟩ := hr3.block
      rw [this, e2, h1] at hc
      cases hc
/-- both hold the same -/
structure BothS (w : World) (p B pr b : Nat) (L : List Cn) : Prop where
  st : StAt w p B L
  rf : ∃ uo uc, RfSt w pr b uo uc L
theorem BothS.only {S : Nat → Prop} {w w' : World} {p B pr b : Nat} {L : List Cn} (h : BothS w p B pr b L) (ho : Only S w w') (h1 : ∀ k, k < w.heap.size → ¬ S k) : BothS w' p B pr b L := by
  obtain ⟨uo, uc, h2⟩ := h.rf
  refine ⟨h.st.only ho (h1 _ h.st.ltp) (h1 _ h.st.ltB), uo, uc, h2.only ho (h1 _ h2.lt) (fun g o e => ?_)⟩
  rcases h2.own with ⟨e3, _⟩ | ⟨g3, e3, hr3⟩
  · rw [e3] at e; cases e
  · rw [e3] at e
    have : g3 = g := by simpa using congrArg (fun x : Option Addr => x.map Addr.block) e
    exact h1 g (this ▸ hr3.lt)
theorem BothS.below {w w' : World} {p B pr b : Nat} {L : List Cn} (h : BothS w p B pr b L) (hb : Below w.heap.size w w') : BothS w' p B pr b L := h.only (S := fun _ => False) (Only.below hb) (fun _ _ h => h)
/-- what do has done -/
def Done (w : World) (p B pr b : Nat) (e : Ending) (w' : World) : Prop := e = .returned (.bool true) ∧ (∃ L, BothS w' p B pr b L) ∧ Only (fun k => k = B ∨ k = pr) w w'
theorem Done.of {w : World} {p B pr b : Nat} {e : Ending} {w' : World} (h : e = .returned (.bool true) ∧ (∃ L, BothS w' p B pr b L) ∧ Only (fun k => k = B ∨ k = pr) w w') : Done w p B pr b e w' := h
/-- a call in a box -/
structure BoxA (w : World) (q : Nat) (kd : Int) (c : Cn) : Prop where
  k0 : w.cell? ⟨q, 0, none⟩ = some (.int .i64 kd)
  c0 : w.cell? ⟨q, 1, none⟩ = some (.string c.nm)
  c1 : w.cell? ⟨q, 2, none⟩ = some (.int .i64 c.day)
theorem BoxA.new (w : World) (kd : Int) (c : Cn) (t : TypeId) : BoxA (w.alloc (.cells #[.int .i64 kd, .string c.nm, .int .i64 c.day] t)) w.heap.size kd c :=
  ⟨by rw [World.cell?_alloc_mark]; rfl, by rw [World.cell?_alloc_mark]; rfl, by rw [World.cell?_alloc_mark]; rfl⟩
theorem BoxA.only {S : Nat → Prop} {w w' : World} {q : Nat} {kd : Int} {c : Cn} (h : BoxA w q kd c) (ho : Only S w w') (hs : ¬ S q) : BoxA w' q kd c := ⟨ho.cell h.k0 hs, ho.cell h.c0 hs, ho.cell h.c1 hs⟩
set_option maxHeartbeats 16000000 in
set_option maxRecDepth 20000 in
theorem do_add (kd : Int) (hk : kd = 0 ∨ kd = 1 ∨ kd = 2 ∨ kd = 3 ∨ kd = 4) (c : Cn) (hc : fitC c) (p B pr b : Nat) (L : List Cn) (w : World) (h : BothS w p B pr b L) (hb : b ≤ w.heap.size) :
    Calls Try.prog 13 #[.pointer (some ⟨p, 0, none⟩), .pointer (some ⟨pr, 0, none⟩), .agg #[.int .i64 kd, .string c.nm, .int .i64 c.day]] w (Done w p B pr b) := by
  obtain ⟨uo, uc, hrf⟩ := h.rf
  obtain ⟨n1, n2, n3⟩ := st_apart h.st hrf
  obtain ⟨F, e0, hF⟩ : ∃ F e0, addF L c = (F, e0) := ⟨_, _, rfl⟩
  have HST := hide h.st
  have HRF := hide hrf
  have BX0 := BoxA.new w kd c 30
  have HBL0 : Below w.heap.size w (w.alloc (.cells #[.int .i64 kd, .string c.nm, .int .i64 c.day] 30)) := (Below.refl _ _).alloc (Nat.le_refl _) _
  have hs0 : (w.alloc (.cells #[.int .i64 kd, .string c.nm, .int .i64 c.day] 30)).heap.size = w.heap.size + 1 := by simp
  obtain ⟨w0, hw0⟩ : ∃ w0, w0 = w.alloc (.cells #[.int .i64 kd, .string c.nm, .int .i64 c.day] 30) := ⟨_, rfl⟩
  rw [← hw0] at BX0 HBL0 hs0
  have HST0 := hide (HST.out.below HBL0).drew
  have HRF0 := hide (HRF.out.below HBL0).drew
  have BX := hide (show BoxA w0.drew w.heap.size kd c from ⟨BX0.k0, BX0.c0, BX0.c1⟩)
  have HB0 : Hid (Only (fun k => k = B ∨ k = pr) w w0.drew) := (Only.below HBL0).drew
  have HQB : Hid (¬ w.heap.size = B ∧ ¬ w.heap.size = pr) := by have := HST.out.ltB; have := HRF.out.lt; exact hide ⟨by omega, by omega⟩
  obtain ⟨k0, y0, y1⟩ := BX0
  have HC1 := hide (fun w h => cadd_eq hF hc p B w h)
  have HC2 := hide (fun w h hb => radd_any c pr b uo uc L w h hb hc F e0 hF)
  have HN := hide (And.intro n1 (And.intro n2 n3))
  have HBB : Hid (b ≤ w0.drew.heap.size) := by refine hide ?_; show b ≤ w0.heap.size; omega
  unfold ptr at HC1 HC2
  try unfold cvl at HC1
  try unfold cvl at HC2
  clear HBL0 hs0 h hb hrf n1 n2 n3
  have hkz : kd = 0 ∨ kd = 1 ∨ kd = 2 ∨ kd = 3 ∨ kd = 4 := hk
  clear hk
  rcases hkz with rfl | rfl | rfl | rfl | rfl
  all_goals
    go_enter Try.func13, Try.ntmps13
    go_wp2_with fail
    rw [← hw0]
    clear hw0
    go_wp2
    generalize hq : w.heap.size = q at *
    have KP : Hid (∀ w', Only (· = B) w0.drew w' → w'.cell? ⟨q, 1, none⟩ = some (.string c.nm) ∧ w'.cell? ⟨q, 2, none⟩ = some (.int .i64 c.day)) := fun w' ho => by
      have h := BX.out.only ho HQB.out.1
      exact ⟨h.c0, h.c1⟩
    have KQ : Hid (∀ w1 w', Only (· = B) w0.drew w1 → Only (· = pr) w1 w' → w'.cell? ⟨q, 1, none⟩ = some (.string c.nm) ∧ w'.cell? ⟨q, 2, none⟩ = some (.int .i64 c.day)) := fun w1 w' h1 h2 => by
      have h := (BX.out.only h1 HQB.out.1).only h2 HQB.out.2
      exact ⟨h.c0, h.c1⟩
    first
      | (go_region_held3 (fun w' => w'.cell? ⟨q, 1, none⟩ = some (.string c.nm) ∧ w'.cell? ⟨q, 2, none⟩ = some (.int .i64 c.day))
          (go_keep)
          (first
            | (go_at_call 11; refine (HC1.out _ (by exact HST0.out)).mono ?_; rintro e w1 ⟨rfl, hst1, ho1⟩; obtain ⟨z0, z1⟩ := KP.out _ ho1)
            | (go_at_call 28; refine (HC2.out _ (HRF0.out.only ho1 HN.out.2.1 HN.out.2.2) (by have h1 := HBB.out; have h2 := ho1.size; exact Nat.le_trans h1 h2)).mono ?_; rintro e w2 ⟨rfl, hrf2, ho2⟩; obtain ⟨v0, v1⟩ := KQ.out _ _ ho1 ho2)))
      | fail
    all_goals
      have HE : Hid (Done w p B pr b (.returned (.bool true)) w2) := Done.of ⟨rfl, ⟨_, ⟨hst1.only ho2 (fun e => HN.out.1 e.symm) (fun e => HN.out.2.1 e.symm), hrf2⟩⟩, (HB0.out.trans ho1 (fun _ _ h => .inl h)).trans ho2 (fun _ _ h => .inr h)⟩
      clear hst1 ho1 hrf2 ho2 z0 z1 v0 v1
      go_wp2
      go_ret
      exact HE.out
set_option maxHeartbeats 16000000 in
set_option maxRecDepth 20000 in
theorem do_drop (kd : Int) (hk : kd = 5) (c : Cn) (hc : fitC c) (p B pr b : Nat) (L : List Cn) (w : World) (h : BothS w p B pr b L) (hb : b ≤ w.heap.size) :
    Calls Try.prog 13 #[.pointer (some ⟨p, 0, none⟩), .pointer (some ⟨pr, 0, none⟩), .agg #[.int .i64 kd, .string c.nm, .int .i64 c.day]] w (Done w p B pr b) := by
  obtain ⟨uo, uc, hrf⟩ := h.rf
  obtain ⟨n1, n2, n3⟩ := st_apart h.st hrf
  generalize hF : dropF L c = F
  have hFx := hF
  have HST := hide h.st
  have HRF := hide hrf
  have BX0 := BoxA.new w kd c 30
  have HBL0 : Below w.heap.size w (w.alloc (.cells #[.int .i64 kd, .string c.nm, .int .i64 c.day] 30)) := (Below.refl _ _).alloc (Nat.le_refl _) _
  have hs0 : (w.alloc (.cells #[.int .i64 kd, .string c.nm, .int .i64 c.day] 30)).heap.size = w.heap.size + 1 := by simp
  obtain ⟨w0, hw0⟩ : ∃ w0, w0 = w.alloc (.cells #[.int .i64 kd, .string c.nm, .int .i64 c.day] 30) := ⟨_, rfl⟩
  rw [← hw0] at BX0 HBL0 hs0
  have HST0 := hide (HST.out.below HBL0).drew
  have HRF0 := hide (HRF.out.below HBL0).drew
  have BX := hide (show BoxA w0.drew w.heap.size kd c from ⟨BX0.k0, BX0.c0, BX0.c1⟩)
  have HB0 : Hid (Only (fun k => k = B ∨ k = pr) w w0.drew) := (Only.below HBL0).drew
  have HQB : Hid (¬ w.heap.size = B ∧ ¬ w.heap.size = pr) := by have := HST.out.ltB; have := HRF.out.lt; exact hide ⟨by omega, by omega⟩
  obtain ⟨k0, y0, y1⟩ := BX0
  have HC1 := hide (fun w h => by have h0 := cdrop_any c p B L w h hc; unfold Dropped at h0; rw [hF] at h0; exact h0)
  have HC2 := hide (fun w h hb => rdrop_any c pr b uo uc L w h hb F hF)
  have HN := hide (And.intro n1 (And.intro n2 n3))
  have HBB : Hid (b ≤ w0.drew.heap.size) := by refine hide ?_; show b ≤ w0.heap.size; omega
  unfold ptr at HC1 HC2
  try unfold cvl at HC1
  try unfold cvl at HC2
  clear HBL0 hs0 h hb hrf n1 n2 n3
  have hkz : kd = 5 := hk
  clear hk
  subst hkz
  all_goals
    go_enter Try.func13, Try.ntmps13
    go_wp2_with fail
    rw [← hw0]
    clear hw0
    go_wp2
    generalize hq : w.heap.size = q at *
    have KP : Hid (∀ w', Only (· = B) w0.drew w' → w'.cell? ⟨q, 1, none⟩ = some (.string c.nm) ∧ w'.cell? ⟨q, 2, none⟩ = some (.int .i64 c.day)) := fun w' ho => by
      have h := BX.out.only ho HQB.out.1
      exact ⟨h.c0, h.c1⟩
    have KQ : Hid (∀ w1 w', Only (· = B) w0.drew w1 → Only (· = pr) w1 w' → w'.cell? ⟨q, 1, none⟩ = some (.string c.nm) ∧ w'.cell? ⟨q, 2, none⟩ = some (.int .i64 c.day)) := fun w1 w' h1 h2 => by
      have h := (BX.out.only h1 HQB.out.1).only h2 HQB.out.2
      exact ⟨h.c0, h.c1⟩
    first
      | (go_region_held3 (fun w' => w'.cell? ⟨q, 1, none⟩ = some (.string c.nm) ∧ w'.cell? ⟨q, 2, none⟩ = some (.int .i64 c.day))
          (go_keep)
          (first
            | (go_at_call 23; refine (HC1.out _ (by exact HST0.out)).mono ?_; rintro e w1 ⟨rfl, hst1, ho1⟩; obtain ⟨z0, z1⟩ := KP.out _ ho1)
            | (go_at_call 29; refine (HC2.out _ (HRF0.out.only ho1 HN.out.2.1 HN.out.2.2) (by have h1 := HBB.out; have h2 := ho1.size; exact Nat.le_trans h1 h2)).mono ?_; rintro e w2 ⟨rfl, hrf2, ho2⟩; obtain ⟨v0, v1⟩ := KQ.out _ _ ho1 ho2)))
      | fail
    all_goals
      have HE : Hid (Done w p B pr b (.returned (.bool true)) w2) := Done.of ⟨rfl, ⟨_, ⟨hst1.only ho2 (fun e => HN.out.1 e.symm) (fun e => HN.out.2.1 e.symm), hrf2⟩⟩, (HB0.out.trans ho1 (fun _ _ h => .inl h)).trans ho2 (fun _ _ h => .inr h)⟩
      clear hst1 ho1 hrf2 ho2 z0 z1 v0 v1
      go_wp2
      go_ret
      exact HE.out
set_option maxHeartbeats 16000000 in
set_option maxRecDepth 20000 in
theorem do_dropall (kd : Int) (hk : kd = 6) (c : Cn) (hc : fitC c) (p B pr b : Nat) (L : List Cn) (w : World) (h : BothS w p B pr b L) (hb : b ≤ w.heap.size) :
    Calls Try.prog 13 #[.pointer (some ⟨p, 0, none⟩), .pointer (some ⟨pr, 0, none⟩), .agg #[.int .i64 kd, .string c.nm, .int .i64 c.day]] w (Done w p B pr b) := by
  obtain ⟨uo, uc, hrf⟩ := h.rf
  obtain ⟨n1, n2, n3⟩ := st_apart h.st hrf
  generalize hF : dropN L c.nm = F
  have HST := hide h.st
  have HRF := hide hrf
  have BX0 := BoxA.new w kd c 30
  have HBL0 : Below w.heap.size w (w.alloc (.cells #[.int .i64 kd, .string c.nm, .int .i64 c.day] 30)) := (Below.refl _ _).alloc (Nat.le_refl _) _
  have hs0 : (w.alloc (.cells #[.int .i64 kd, .string c.nm, .int .i64 c.day] 30)).heap.size = w.heap.size + 1 := by simp
  obtain ⟨w0, hw0⟩ : ∃ w0, w0 = w.alloc (.cells #[.int .i64 kd, .string c.nm, .int .i64 c.day] 30) := ⟨_, rfl⟩
  rw [← hw0] at BX0 HBL0 hs0
  have HST0 := hide (HST.out.below HBL0).drew
  have HRF0 := hide (HRF.out.below HBL0).drew
  have BX := hide (show BoxA w0.drew w.heap.size kd c from ⟨BX0.k0, BX0.c0, BX0.c1⟩)
  have HB0 : Hid (Only (fun k => k = B ∨ k = pr) w w0.drew) := (Only.below HBL0).drew
  have HQB : Hid (¬ w.heap.size = B ∧ ¬ w.heap.size = pr) := by have := HST.out.ltB; have := HRF.out.lt; exact hide ⟨by omega, by omega⟩
  obtain ⟨k0, y0, y1⟩ := BX0
  have HC1 := hide (fun w h => by have h0 := cdropall_any c.nm p B L w h; rw [hF] at h0; exact h0)
  have HC2 := hide (fun w h hb => rdropall_any c.nm pr b uo uc L w h hb F hF)
  have HN := hide (And.intro n1 (And.intro n2 n3))
  have HBB : Hid (b ≤ w0.drew.heap.size) := by refine hide ?_; show b ≤ w0.heap.size; omega
  unfold ptr at HC1 HC2
  try unfold cvl at HC1
  try unfold cvl at HC2
  clear HBL0 hs0 h hb hrf n1 n2 n3
  have hkz : kd = 6 := hk
  clear hk
  subst hkz
  all_goals
    go_enter Try.func13, Try.ntmps13
    go_wp2_with fail
    rw [← hw0]
    clear hw0
    go_wp2
    generalize hq : w.heap.size = q at *
    have KP : Hid (∀ w', Only (· = B) w0.drew w' → w'.cell? ⟨q, 1, none⟩ = some (.string c.nm) ∧ w'.cell? ⟨q, 2, none⟩ = some (.int .i64 c.day)) := fun w' ho => by
      have h := BX.out.only ho HQB.out.1
      exact ⟨h.c0, h.c1⟩
    have KQ : Hid (∀ w1 w', Only (· = B) w0.drew w1 → Only (· = pr) w1 w' → w'.cell? ⟨q, 1, none⟩ = some (.string c.nm) ∧ w'.cell? ⟨q, 2, none⟩ = some (.int .i64 c.day)) := fun w1 w' h1 h2 => by
      have h := (BX.out.only h1 HQB.out.1).only h2 HQB.out.2
      exact ⟨h.c0, h.c1⟩
    first
      | (go_region_held3 (fun w' => w'.cell? ⟨q, 1, none⟩ = some (.string c.nm) ∧ w'.cell? ⟨q, 2, none⟩ = some (.int .i64 c.day))
          (go_keep)
          (first
            | (go_at_call 12; refine (HC1.out _ (by exact HST0.out)).mono ?_; rintro e w1 ⟨rfl, hst1, ho1⟩; obtain ⟨z0, z1⟩ := KP.out _ ho1)
            | (go_at_call 30; refine (HC2.out _ (HRF0.out.only ho1 HN.out.2.1 HN.out.2.2) (by have h1 := HBB.out; have h2 := ho1.size; exact Nat.le_trans h1 h2)).mono ?_; rintro e w2 ⟨rfl, hrf2, ho2⟩; obtain ⟨v0, v1⟩ := KQ.out _ _ ho1 ho2)))
      | fail
    all_goals
      have HE : Hid (Done w p B pr b (.returned (.bool true)) w2) := Done.of ⟨rfl, ⟨_, ⟨hst1.only ho2 (fun e => HN.out.1 e.symm) (fun e => HN.out.2.1 e.symm), hrf2⟩⟩, (HB0.out.trans ho1 (fun _ _ h => .inl h)).trans ho2 (fun _ _ h => .inr h)⟩
      clear hst1 ho1 hrf2 ho2 z0 z1 v0 v1
      go_wp2
      go_ret
      exact HE.out
set_option maxHeartbeats 16000000 in
set_option maxRecDepth 20000 in
theorem do_clean (kd : Int) (hk : kd = 7) (c : Cn) (hc : fitC c) (p B pr b : Nat) (L : List Cn) (w : World) (h : BothS w p B pr b L) (hb : b ≤ w.heap.size) :
    Calls Try.prog 13 #[.pointer (some ⟨p, 0, none⟩), .pointer (some ⟨pr, 0, none⟩), .agg #[.int .i64 kd, .string c.nm, .int .i64 c.day]] w (Done w p B pr b) := by
  obtain ⟨uo, uc, hrf⟩ := h.rf
  obtain ⟨n1, n2, n3⟩ := st_apart h.st hrf
  generalize hF : cleanF L c.day = F
  have HST := hide h.st
  have HRF := hide hrf
  have BX0 := BoxA.new w kd c 30
  have HBL0 : Below w.heap.size w (w.alloc (.cells #[.int .i64 kd, .string c.nm, .int .i64 c.day] 30)) := (Below.refl _ _).alloc (Nat.le_refl _) _
  have hs0 : (w.alloc (.cells #[.int .i64 kd, .string c.nm, .int .i64 c.day] 30)).heap.size = w.heap.size + 1 := by simp
  obtain ⟨w0, hw0⟩ : ∃ w0, w0 = w.alloc (.cells #[.int .i64 kd, .string c.nm, .int .i64 c.day] 30) := ⟨_, rfl⟩
  rw [← hw0] at BX0 HBL0 hs0
  have HST0 := hide (HST.out.below HBL0).drew
  have HRF0 := hide (HRF.out.below HBL0).drew
  have BX := hide (show BoxA w0.drew w.heap.size kd c from ⟨BX0.k0, BX0.c0, BX0.c1⟩)
  have HB0 : Hid (Only (fun k => k = B ∨ k = pr) w w0.drew) := (Only.below HBL0).drew
  have HQB : Hid (¬ w.heap.size = B ∧ ¬ w.heap.size = pr) := by have := HST.out.ltB; have := HRF.out.lt; exact hide ⟨by omega, by omega⟩
  obtain ⟨k0, y0, y1⟩ := BX0
  have HC1 := hide (fun w h => by have h0 := cclean_any c.day p B L w h; rw [hF] at h0; exact h0)
  have HC2 := hide (fun w h hb => rclean_any c.day pr b uo uc L w h hb F hF)
  have HN := hide (And.intro n1 (And.intro n2 n3))
  have HBB : Hid (b ≤ w0.drew.heap.size) := by refine hide ?_; show b ≤ w0.heap.size; omega
  unfold ptr at HC1 HC2
  try unfold cvl at HC1
  try unfold cvl at HC2
  clear HBL0 hs0 h hb hrf n1 n2 n3
  have hkz : kd = 7 := hk
  clear hk
  subst hkz
  all_goals
    go_enter Try.func13, Try.ntmps13
    go_wp2_with fail
    rw [← hw0]
    clear hw0
    go_wp2
    generalize hq : w.heap.size = q at *
    have KP : Hid (∀ w', Only (· = B) w0.drew w' → w'.cell? ⟨q, 1, none⟩ = some (.string c.nm) ∧ w'.cell? ⟨q, 2, none⟩ = some (.int .i64 c.day)) := fun w' ho => by
      have h := BX.out.only ho HQB.out.1
      exact ⟨h.c0, h.c1⟩
    have KQ : Hid (∀ w1 w', Only (· = B) w0.drew w1 → Only (· = pr) w1 w' → w'.cell? ⟨q, 1, none⟩ = some (.string c.nm) ∧ w'.cell? ⟨q, 2, none⟩ = some (.int .i64 c.day)) := fun w1 w' h1 h2 => by
      have h := (BX.out.only h1 HQB.out.1).only h2 HQB.out.2
      exact ⟨h.c0, h.c1⟩
    first
      | (go_region_held3 (fun w' => w'.cell? ⟨q, 1, none⟩ = some (.string c.nm) ∧ w'.cell? ⟨q, 2, none⟩ = some (.int .i64 c.day))
          (go_keep)
          (first
            | (go_at_call 22; refine (HC1.out _ (by exact HST0.out)).mono ?_; rintro e w1 ⟨rfl, hst1, ho1⟩; obtain ⟨z0, z1⟩ := KP.out _ ho1)
            | (go_at_call 31; refine (HC2.out _ (HRF0.out.only ho1 HN.out.2.1 HN.out.2.2) (by have h1 := HBB.out; have h2 := ho1.size; exact Nat.le_trans h1 h2)).mono ?_; rintro e w2 ⟨rfl, hrf2, ho2⟩; obtain ⟨v0, v1⟩ := KQ.out _ _ ho1 ho2)))
      | fail
    all_goals
      have HE : Hid (Done w p B pr b (.returned (.bool true)) w2) := Done.of ⟨rfl, ⟨_, ⟨hst1.only ho2 (fun e => HN.out.1 e.symm) (fun e => HN.out.2.1 e.symm), hrf2⟩⟩, (HB0.out.trans ho1 (fun _ _ h => .inl h)).trans ho2 (fun _ _ h => .inr h)⟩
      clear hst1 ho1 hrf2 ho2 z0 z1 v0 v1
      go_wp2
      go_ret
      exact HE.out
set_option maxHeartbeats 16000000 in
set_option maxRecDepth 20000 in
theorem do_none (kd : Int) (hk : ¬ kd = 0 ∧ ¬ kd = 1 ∧ ¬ kd = 2 ∧ ¬ kd = 3 ∧ ¬ kd = 4 ∧ ¬ kd = 5 ∧ ¬ kd = 6 ∧ ¬ kd = 7) (c : Cn) (p B pr b : Nat) (L : List Cn) (w : World) (h : BothS w p B pr b L) :
    Calls Try.prog 13 #[.pointer (some ⟨p, 0, none⟩), .pointer (some ⟨pr, 0, none⟩), .agg #[.int .i64 kd, .string c.nm, .int .i64 c.day]] w (Done w p B pr b) := by
  have HBL0 : Below w.heap.size w (w.alloc (.cells #[.int .i64 kd, .string c.nm, .int .i64 c.day] 30)) := (Below.refl _ _).alloc (Nat.le_refl _) _
  have HE : Hid (Done w p B pr b (.returned (.bool true)) (w.alloc (.cells #[.int .i64 kd, .string c.nm, .int .i64 c.day] 30))) := Done.of ⟨rfl, ⟨_, h.below HBL0⟩, Only.below HBL0⟩
  obtain ⟨h0, h1, h2, h3, h4, h5, h6, h7⟩ := hk
  have b0 : (kd == 0) = false := beq_false_of_ne h0
  have b1 : (kd == 1) = false := beq_false_of_ne h1
  have b2 : (kd == 2) = false := beq_false_of_ne h2
  have b3 : (kd == 3) = false := beq_false_of_ne h3
  have b4 : (kd == 4) = false := beq_false_of_ne h4
  have b5 : (kd == 5) = false := beq_false_of_ne h5
  have b6 : (kd == 6) = false := beq_false_of_ne h6
  have b7 : (kd == 7) = false := beq_false_of_ne h7
  clear h HBL0
  go_enter Try.func13, Try.ntmps13
  go_wp2
  go_ret
  exact HE.out
/-- do -/
theorem do_any (kd : Int) (c : Cn) (hc : fitC c) (p B pr b : Nat) (L : List Cn) (w : World) (h : BothS w p B pr b L) (hb : b ≤ w.heap.size) :
    Calls Try.prog 13 #[.pointer (some ⟨p, 0, none⟩), .pointer (some ⟨pr, 0, none⟩), .agg #[.int .i64 kd, .string c.nm, .int .i64 c.day]] w (Done w p B pr b) := by
  by_cases h1 : kd = 0 ∨ kd = 1 ∨ kd = 2 ∨ kd = 3 ∨ kd = 4
  · exact do_add kd h1 c hc p B pr b L w h hb
  by_cases h5 : kd = 5
  · exact do_drop kd h5 c hc p B pr b L w h hb
  by_cases h6 : kd = 6
  · exact do_dropall kd h6 c hc p B pr b L w h hb
  by_cases h7 : kd = 7
  · exact do_clean kd h7 c hc p B pr b L w h hb
  exact do_none kd (by omega) c p B pr b L w h
end Go.Proofs.Ytliinilbfacpbaa
