/- The walks of cut, Crash and Copy of package disk. -/
import Derived.Test.YtgobnnciijlpaaaDoorDkE
namespace Go.Proofs.YtgobnnciijlpaaaDoor
open Go.ChangeShapes Go.WideShapes Go.ChangeAt Go.RowKit Go.DsMem Go.DsDk
set_option linter.unusedVariables false

/-- the first bytes of a row -/
theorem own_take {w : World} {B : Nat} {e : TypeId} {ao : Option Addr} {cap n : Nat} {l : List UInt8} (h : w.ownsRow B e 1 (.slice ao l.length cap) l.length (bvs l)) (hn : n ≤ l.length) :
    w.ownsRow B e 1 (.slice ao n cap) n (bvs (l.take n)) := by
  refine ⟨by rw [bvs_length, List.length_take]; omega, ?_⟩
  rcases h.2 with ⟨h0, h1⟩ | ⟨g, c, cur, hv, hb, hg, h1, h2, h3, h4⟩
  · left
    simp only [Value.slice.injEq] at h0
    obtain ⟨rfl, _, rfl⟩ := h0
    obtain rfl : n = 0 := by omega
    exact ⟨rfl, rfl⟩
  · right
    simp only [Value.slice.injEq, true_and] at hv
    obtain ⟨rfl, rfl⟩ := hv
    refine ⟨g, cap, cur, rfl, hb, hg, by omega, h2, h3, ?_⟩
    rw [bvs_take, ← h4, List.take_take]
    congr 1
    omega

theorem cut_end {w : World} {p : Nat} {v : Nat → Value} {D : Dk} {k : Nat} (hAt : DiskAt w p v D) (hk : k < 8) {ao : Option Addr} {cap : Nat} (hv : v k = .slice ao (D.b k).length cap)
    (m : Nat) (x : Int) (y : Nat) (hx : x = m) (hy : y = m) (hm : m ≤ (D.b k).length) :
    ∃ v', Moved w p v ((w.setCell ⟨p, k * 2 + 1, none⟩ (.int .i64 x)).setCell ⟨p, k * 2, none⟩ (.slice ao y cap)).drew.drew v' (D.cutTo k m) := by
  subst hx
  subst hy
  have ho : Only (· = p) w ((w.setCell ⟨p, k * 2 + 1, none⟩ (.int .i64 (y : Int))).setCell ⟨p, k * 2, none⟩ (.slice ao y cap)).drew.drew :=
    ((Only.set _ _ _ _).trans (Only.set _ _ _ _) (fun _ _ h => h)).drew.drew
  have hown := hAt.own k hk
  rw [hv] at hown
  have hlen : ((D.b k).take y).length = y := by rw [List.length_take]; omega
  refine ⟨upd v k (.slice ao y cap), Moved.grown hAt hk (b := (D.b k).take y) (ho.mono (fun _ _ h => .inl h)) rfl ?_ (.inl ?_) ?_ (hAt.ok.cutTo k y hm) hAt.few⟩
  · rw [hlen]
    refine own_only (own_take hown hm) ho (fun i hi e => ?_)
    exact hAt.ne hk (k := i) (by rw [hv]; cases ao <;> exact hi) e
  · rw [hv]; cases ao <;> rfl
  · exact ((hAt.blk.setSafe hk y).setBytes hk (.slice ao y cap)).drew.drew

set_option maxHeartbeats 1000000 in
/-- (*file).cut: of one file of a disk -/
theorem cut_any (p : Nat) (v : Nat → Value) (D : Dk) (k : Nat) (st : Int) (w : World) (hAt : DiskAt w p v D) (hk : k < 8) :
    Calls Tryd.prog 58 #[.pointer (some ⟨p, k * 2, none⟩), .int .i64 st] w fun e w' => e = .returned (.tuple #[]) ∧
      ∃ v', Moved w p v w' v' (D.cutTo k (D.s k + Nat.min st.toNat ((D.b k).length - D.s k))) := by
  obtain ⟨ao2, cap2, hv, hcap⟩ := own_shape (hAt.own k hk)
  have HV := hide hv
  clear hv
  have hcb := hAt.blk.bytes hk
  rw [HV.out] at hcb
  have hcs := hAt.blk.safe hk
  have hfb := hAt.blk.free (k * 2)
  have hfs := hAt.blk.free (k * 2 + 1)
  have hlen := (hAt.ok k hk).2
  have hsafe := (hAt.ok k hk).1
  rcases (show st < 0 ∨ (0 ≤ st ∧ st ≤ (D.b k).length - D.s k) ∨ (0 ≤ st ∧ (D.b k).length - D.s k < st) by omega) with h | ⟨h, h2⟩ | ⟨h, h2⟩
  all_goals
    go_enter Tryd.func58, Tryd.ntmps58
    go_wp2
    go_region
    all_goals go_wp2
    go_region
    all_goals go_wp2
    go_end0
    have hmn : Nat.min st.toNat ((D.b k).length - D.s k) ≤ (D.b k).length - D.s k := Nat.min_le_right _ _
    refine ⟨rfl, cut_end hAt hk HV.out _ _ _ ?_ ?_ (by omega)⟩
    all_goals
      rcases natmin st.toNat ((D.b k).length - D.s k) with ⟨hm1, hm2⟩ | ⟨hm1, hm2⟩
      all_goals (rw [hm2]; omega)


/-- what of a disk is seen -/
def Dk.alike (D E : Dk) : Prop := (∀ f, f < 8 → E.b f = D.b f ∧ E.s f = D.s f) ∧ E.left = D.left ∧ E.dead = D.dead
theorem dcells_congr {v : Nat → Value} {s t : Nat → Nat} (h : ∀ f, f < 8 → t f = s f) (left : Nat) (dead : Bool) : dcells v t left dead = dcells v s left dead := by
  unfold dcells
  rw [h 0 (by omega), h 1 (by omega), h 2 (by omega), h 3 (by omega), h 4 (by omega), h 5 (by omega), h 6 (by omega), h 7 (by omega)]
theorem DiskAt.alike {w : World} {p : Nat} {v : Nat → Value} {D E : Dk} (h : DiskAt w p v D) (he : Dk.alike D E) : DiskAt w p v E := by
  obtain ⟨hbs, hl, hd⟩ := he
  refine ⟨?_, fun f hf => by rw [(hbs f hf).1]; exact h.own f hf, h.sep, fun f hf => by rw [(hbs f hf).1, (hbs f hf).2]; exact h.ok f hf, by unfold Dk.Few; rw [hl]; exact h.few⟩
  unfold DB
  rw [dcells_congr (fun f hf => (hbs f hf).2), hl, hd]
  exact h.blk
theorem crash_alike (D : Dk) (keep : List Int) : Dk.alike ({ (cutAll D keep 8) with left := 0, dead := false } : Dk) (D.crash keep) := by
  refine ⟨fun f hf => ⟨?_, ?_⟩, rfl, rfl⟩
  · simp only [cutAll_b, if_pos hf]; rfl
  · simp only [cutAll_s, if_pos hf]; rfl

theorem Moved.trans {w w1 w2 : World} {p : Nat} {v v1 v2 : Nat → Value} {D1 D2 : Dk} (h : Moved w p v w1 v1 D1) (k : Moved w1 p v1 w2 v2 D2) : Moved w p v w2 v2 D2 :=
  ⟨k.dk, h.only.trans k.only (fun i hi hf => (h.grow i hf).resolve_right (by omega)), fun i hi => by
    rcases k.grow i hi with h1 | h1
    · exact h.grow i h1
    · have := h.only.size; exact .inr (by omega)⟩
theorem Moved.refl {w : World} {p : Nat} {v : Nat → Value} {D : Dk} (h : DiskAt w p v D) : Moved w p v w v D := ⟨h, Only.refl _ _, fun _ h => .inl h⟩
theorem Moved.alike {w w' : World} {p : Nat} {v v' : Nat → Value} {D E : Dk} (h : Moved w p v w' v' D) (he : Dk.alike D E) : Moved w p v w' v' E := ⟨h.dk.alike he, h.only, h.grow⟩

theorem add_block (a : Addr) (j : Nat) : (a.add j).block = a.block := by unfold Addr.add; split <;> rfl
theorem DiskAt.foot_lt {w : World} {p : Nat} {v : Nat → Value} {D : Dk} (h : DiskAt w p v D) {k : Nat} (hk : foot p v k) : k < w.heap.size := by
  rcases hk with rfl | ⟨f, hf, hb⟩
  · exact h.lt
  · exact ((h.own f hf).lt k hb).2
theorem getD_of {keep : List Int} {k : Nat} (h : k < keep.length) : keep.getD k 0 = keep[k] := by simp [List.getD, h]
theorem kept_of (D : Dk) (keep : List Int) (k : Nat) : D.kept keep k = D.s k + Nat.min (keep.getD k 0).toNat ((D.b k).length - D.s k) := rfl

set_option maxHeartbeats 2000000 in
/-- (*Disk).Crash -/
theorem crash_any (p : Nat) (v : Nat → Value) (D : Dk) (keep : List Int) (sl : Value) (w : World) (hAt : DiskAt w p v D) (hk : RdI w sl keep) (hsep : 0 < keep.length → ∀ k, sl.ownBlock = some k → ¬ foot p v k) :
    Calls Tryd.prog 25 #[.pointer (some ⟨p, 0, none⟩), sl] w fun e w' => e = .returned (.tuple #[]) ∧ ∃ v', Moved w p v w' v' (D.crash keep) := by
  obtain ⟨ao, cap, rfl, hlc, hnil, hrd⟩ := hk
  go_enter Tryd.func25, Tryd.ntmps25
  go_wp2
  go_loopw [8] (fun i wr => ∃ k : Nat, k ≤ 8 ∧ i = .int .i64 k ∧ ∃ v', Moved w p v wr v' (cutAll D keep k)) (fun i _ => 8 - (intOf i).toNat)
  case atStart => exact ⟨0, Nat.zero_le _, rfl, v, Moved.refl hAt⟩
  case round =>
    obtain ⟨k, hk8, rfl, v', hmv⟩ := hrel
    by_cases hlt : k < 8
    · have HC : Hid (∀ st : Int, st.toNat = (keep.getD k 0).toNat → (cutAll D keep k).cutTo k ((cutAll D keep k).s k + Nat.min st.toNat (((cutAll D keep k).b k).length - (cutAll D keep k).s k)) = cutAll D keep (k + 1)) := by
        intro st hst
        have e1 := cutAll_b D keep k k
        have e2 := cutAll_s D keep k k
        rw [if_neg (Nat.lt_irrefl _)] at e1 e2
        rw [e1, e2, hst]
        rfl
      by_cases hin : k < keep.length
      · obtain ⟨a, rfl⟩ : ∃ a, ao = some a := by
          cases ao with
          | none => have := hnil rfl; omega
          | some a => exact ⟨a, rfl⟩
        have hc := hmv.only.cell (hrd a rfl k keep[k] (List.getElem?_eq_getElem hin)) (hsep (by omega) _ (by rw [add_block]; rfl))
        obtain ⟨st, hst⟩ : ∃ st, st = keep[k] := ⟨_, rfl⟩
        rw [← hst] at hc
        have HE := hide (HC.out st (by rw [getD_of hin, hst]))
        clear hrd hnil hst
        have HS := hide hsep
        have HM := hide hmv
        clear hsep hmv
        go_wp2_with (go_at_call 58; refine (cut_any p v' (cutAll D keep k) k st _ HM.out.dk hlt).mono ?_; rintro e w2 ⟨rfl, v2, hm2⟩; rw [HE.out] at hm2; have HM2 := hide (HM.out.trans hm2); clear hm2)
        go_roundw
        case rel => exact ⟨k + 1, by omega, by go_num, v2, HM2.out⟩
        case measure => simp [intOf]; omega
      · have HE := hide (HC.out 0 (by simp [List.getD, List.getElem?_eq_none (show keep.length ≤ k by omega)]))
        clear hrd hnil
        have HS := hide hsep
        have HM := hide hmv
        clear hsep hmv
        go_wp2_with (go_at_call 58; refine (cut_any p v' (cutAll D keep k) k 0 _ HM.out.dk hlt).mono ?_; rintro e w2 ⟨rfl, v2, hm2⟩; rw [HE.out] at hm2; have HM2 := hide (HM.out.trans hm2); clear hm2)
        go_roundw
        case rel => exact ⟨k + 1, by omega, by go_num, v2, HM2.out⟩
        case measure => simp [intOf]; omega
    · obtain rfl : k = 8 := by omega
      have hl := hmv.dk.blk.leftC
      have hd := hmv.dk.blk.deadC
      have hf1 := hmv.dk.blk.free 16
      have hf2 := hmv.dk.blk.free 17
      have HM := hide hmv
      clear hmv hrd hnil hsep
      go_wp2
      go_end0
      have hfin := HM.out.dk.blk
      refine ⟨rfl, v', (HM.out.trans (Moved.same (D' := ({ (cutAll D keep 8) with left := 0, dead := false } : Dk)) HM.out.dk ((Only.set _ _ _ _).trans (Only.set _ _ _ _) (fun _ _ h => h)) rfl ((hfin.setLeft 0).setDead false) HM.out.dk.ok (Nat.zero_le _))).alike (crash_alike D keep)⟩
end Go.Proofs.YtgobnnciijlpaaaDoor
