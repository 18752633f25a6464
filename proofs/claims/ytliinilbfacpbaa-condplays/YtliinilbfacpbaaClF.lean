/- Package cond: dropWhere, DropAll, Clean. -/
import Derived.Test.YtliinilbfacpbaaClE
import Derived.Deep.RegionLaw
namespace Go.Proofs.Ytliinilbfacpbaa
open Go.ChangeShapes Go.WideShapes Go.ChangeAt Go.RowKit Go.DsMem Go.DsCo
set_option linter.unusedVariables false
open Classical in
/-- those that are still to come, and those that stay -/
noncomputable def keepL (g : Cn → Bool) (L T : List Cn) : List Cn := L.filter (fun c => decide (c ∈ T) || !g c)
theorem mem_keep (g : Cn → Bool) (L T : List Cn) (c : Cn) : c ∈ keepL g L T ↔ c ∈ L ∧ (c ∈ T ∨ g c = false) := by unfold keepL; simp [List.mem_filter]
theorem keep_all (g : Cn → Bool) (L : List Cn) : keepL g L L = L := List.filter_eq_self.2 fun x hx => by simp [hx]
theorem keep_none (g : Cn → Bool) (L : List Cn) : keepL g L [] = L.filter (fun c => !g c) := by unfold keepL; simp
theorem keep_gone {g : Cn → Bool} {L : List Cn} (hL : Up L) (T : List Cn) {c : Cn} (hg : g c = true) : dropF (keepL g L T) c = keepL g L (dropF T c) := by
  refine up_ext ((hL.filter _).filter _) (hL.filter _) fun d => ?_
  rw [mem_drop, mem_keep, mem_keep, mem_drop]
  constructor
  · rintro ⟨⟨h1, h2⟩, h3⟩
    exact ⟨h1, h2.imp (fun h => ⟨h, h3⟩) id⟩
  · rintro ⟨h1, h2⟩
    refine ⟨⟨h1, h2.imp (fun h => h.1) id⟩, fun e => ?_⟩
    subst e
    rcases h2 with h | h
    · exact h.2 rfl
    · rw [hg] at h; cases h
theorem keep_stays {g : Cn → Bool} {L : List Cn} (hL : Up L) (T : List Cn) {c : Cn} (hg : g c = false) : keepL g L T = keepL g L (dropF T c) := by
  refine up_ext (hL.filter _) (hL.filter _) fun d => ?_
  rw [mem_keep, mem_keep, mem_drop]
  constructor
  · rintro ⟨h1, h2⟩
    by_cases e : d = c
    · subst e; exact ⟨h1, .inr hg⟩
    · exact ⟨h1, h2.imp (fun h => ⟨h, e⟩) id⟩
  · rintro ⟨h1, h2⟩
    exact ⟨h1, h2.imp (fun h => h.1) id⟩
theorem Rng.delw {w : World} {B r : Nat} {L T : List Cn} {c : Cn} (h : Rng w B r L T) (hL : Up L) (hc : okC c) (hn : c ∉ T) (ty : TypeId) :
    (Builtin.delete_ #[49, 24] ty #[.map (some B), cvl c]).run Try.prog w = .ok (.tuple #[]) (delW B c ty w) ∧ Rng (delW B c ty w) B r (dropF L c) T ∧ Only (· = B) w (delW B c ty w) ∧ (delW B c ty w).rangeLeft B r ≤ w.rangeLeft B r := by
  obtain ⟨⟨D, n, lf, cnt, h1, h2, h3, h4⟩, h5⟩ := h
  obtain ⟨kl, hkl⟩ := cn_key c (okC.fit hc)
  obtain ⟨w', cnt', hrun, hr', hle, hturn⟩ := h1.drop cnLaw Try.underlying49 hkl ty
  have e : delW B c ty w = w' := by unfold delW; rw [hrun]
  rw [e]
  have hsz : Maps.size (D.del kl) = (dropF L c).length := by
    have hd := Maps.size_del (k := kl) (h1.owns.tidy cnLaw)
    have hi := h3 c kl hkl
    rw [h2] at hd
    by_cases hm : c ∈ L
    · rw [if_pos (hi.2 hm)] at hd
      have := len_drop_mem hL hm
      omega
    · rw [if_neg (fun e => hm (hi.1 e))] at hd
      rw [len_drop_not hm]
      omega
  refine ⟨hrun, ⟨⟨_, n, _, cnt', hr', hsz, fun d kd hkd => ?_, fun d kd hkd => ?_⟩, fun d hd => (mem_drop L c d).2 ⟨h5 d hd, fun e => hn (e ▸ hd)⟩⟩, turned_only hturn, by rw [hr'.left_eq, h1.left_eq]; exact hle⟩
  · rw [mem_drop]
    by_cases e : kd = kl
    · subst e
      obtain rfl := cn_keys hkd hkl
      simp [Maps.has_del_same]
    · rw [Maps.has_del_other e, h3 d kd hkd]
      constructor
      · exact fun h => ⟨h, fun e' => e (by subst e'; exact Option.some.inj (hkd.symm.trans hkl))⟩
      · exact fun h => h.1
  · rw [Bool.and_eq_true, h4 d kd hkd]
    constructor
    · exact fun h => h.1
    · intro h
      refine ⟨h, ?_⟩
      have hne : ¬ kd = kl := fun e => by subst e; exact hn (cn_keys hkd hkl ▸ h)
      rw [Maps.sameKey_ne hne]
      rfl

set_option maxHeartbeats 8000000 in
set_option maxRecDepth 20000 in
/-- cond.Store.dropWhere, of a function that looks at one cell -/
theorem cdropw_any (g : Cn → Bool) (K bx : Nat) (bv : Value) (p B : Nat) (L M : List Cn) (hM : L.filter (fun c => !g c) = M) (w : World) (h : StAt w p B L) (hbx : w.cell? ⟨bx, 0, none⟩ = some bv) (hne : ¬ bx = B)
    (hcf : ∀ args w, (callFunc K args).run Try.prog w = .ok (.enter K args) w)
    (hg : ∀ (c : Cn) (w' : World), w'.cell? ⟨bx, 0, none⟩ = some bv → Calls Try.prog K (#[.agg #[.string c.nm, .int .i64 c.day]] ++ #[.pointer (some ⟨bx, 0, none⟩)]) w' fun e w'' => e = .returned (.bool (g c)) ∧ Below w'.heap.size w' w'') :
    Calls Try.prog 26 #[ptr p, .func (.func K) #[] #[.pointer (some ⟨bx, 0, none⟩)]] w fun e w' => e = .returned (.int .i64 (L.length - M.length : Int)) ∧ StAt w' p B M ∧ Only (· = B) w w' := by
  have HS := hide h.sto
  have HF := hide h.fine
  have hp := h.ltp
  have hB := h.ltB
  have hpB := h.ne
  have hbl := World.block_lt_of_cell? w _ hbx
  have c0 := h.c0
  have HC0 := hide c0
  have HBX := hide hbx
  have HG := hide hg
  have h128 := h.fine.le
  have HKN : Hid (keepL g L [] = M) := (keep_none g L).trans hM
  have hl1 : M.length ≤ L.length := by rw [← hM]; exact List.length_filter_le _ L
  clear hM
  obtain ⟨D, hown, hsz, _⟩ := h.sto
  have HSZ := hide hsz
  have HO := hide hown
  clear hsz hown h hbx hg
  unfold ptr
  go_enter Try.func26, Try.ntmps26
  go_wp2_with (first
    | (at_len; refine wpList_len_own _ rfl _ _ rfl 24 53 Try.underlying49 _ B _ D rfl HO.out ?_; rw [HSZ.out])
    | (at_range; refine wpList_range_cn _ rfl _ rfl B L rfl HS.out ?_; intro w1 hr1 hb1)
    | go_in)
  try go_frame
  have HR1 := hide hr1
  have HB1 := hide hb1
  clear hr1 hb1
  go_loopw [6] (fun _ wr => ∃ T : List Cn, Rng wr B w.heap.size (keepL g L T) T ∧ Only (· = B) w wr ∧ ∀ c ∈ T, c ∈ L) (fun _ wr => wr.rangeLeft B w.heap.size)
  case atStart => exact ⟨L, by rw [keep_all]; exact HR1.out, Only.below HB1.out, fun c h => h⟩
  case round =>
    obtain ⟨T, hrg, hon, hall⟩ := hrel
    have HRG := hide hrg
    have HON := hide hon
    have HAL := hide hall
    have hfk : Hid (Fine (keepL g L T)) := HF.out.filter _
    clear hrg hon hall
    go_wp2_with (first
      | (at_next; refine wpList_next_cn _ rfl _ rfl B w.heap.size (keepL g L T) T rfl HRG.out hfk.out.ok ?_ ?_)
      | go_in)
    · intro hT
      subst hT
      rw [HKN.out] at HRG hfk
      obtain ⟨D', hown', hsz', _⟩ := HRG.out.sto
      have HSZ' := hide hsz'
      have HO' := hide hown'
      clear hsz' hown'
      have c0' : wr.cell? ⟨p, 0, none⟩ = some (.map (some B)) := HON.out.cell HC0.out hpB
      go_wp2_with (first
        | (at_len; refine wpList_len_own _ rfl _ _ rfl 24 53 Try.underlying49 _ B _ D' rfl HO'.out ?_; rw [HSZ'.out])
        | go_in)
      go_ret
      exact ⟨rfl, ⟨c0', HRG.out.sto, hfk.out⟩, HON.out⟩
    · intro c w2 hc hr2 hlt ho2 hs2 hen
      have HR2 := hide hr2
      have HLT := hide hlt
      have HC := hide hc
      have hsw : w.heap.size ≤ wr.heap.size := HON.out.size
      have HO2 : Hid (Only (· = B) w w2) := HON.out.trans ho2 (fun i hi e => by omega)
      clear hr2 ho2 hc hlt
      have BX := hide (BoxC.new w2 c 24)
      have HBL : Hid (Below w2.heap.size w2 (w2.alloc (.cells #[.string c.nm, .int .i64 c.day] 24))) := (Below.refl _ _).alloc (Nat.le_refl _) _
      obtain ⟨w3, hw3⟩ : ∃ w3, w3 = w2.alloc (.cells #[.string c.nm, .int .i64 c.day] 24) := ⟨_, rfl⟩
      rw [← hw3, hs2] at BX
      rw [← hw3] at HBL
      have hb3 : w3.cell? ⟨bx, 0, none⟩ = some bv := Below.keeps HBL.out (Nat.le_refl _) (HO2.out.cell HBX.out hne)
      have HCALL := hide (HG.out c w3 hb3)
      clear hb3
      have HR3 := hide (HR2.out.below HBL.out)
      have HO3 : Hid (Only (· = B) w w3) := HO2.out.trans (Only.below HBL.out) (fun _ _ h => h)
      by_cases hgc : g c = true
      · rw [hgc] at HCALL
        go_wp2_with fail
        rw [← hw3]
        refine HCALL.out.mono ?_
        rintro e w4 ⟨rfl, hb4⟩
        have HR4 := hide (HR3.out.1.below hb4)
        obtain ⟨a0, a1⟩ := BX.out.below hb4
        have HO4 : Hid (Only (· = B) w w4) := HO3.out.trans (Only.below hb4) (fun _ _ h => h)
        have c4 : w4.cell? ⟨p, 0, none⟩ = some (.map (some B)) := HO4.out.cell HC0.out hpB
        clear hb4
        have hdl := fun ty => (show Rng w4.drew B w.heap.size (keepL g L T) (dropF T c) from HR4.out.1).delw hfk.out.up (hfk.out.ok c (HRG.out.sub c HC.out)) (fun hm => ((mem_drop T c c).1 hm).2 rfl) ty
        have hrun := fun ty => (hdl ty).1
        have HD := hide (fun ty => (hdl ty).2)
        unfold cvl at hrun
        clear hdl
        go_wp2
        go_region_law ((refine step_delC _ (by rfl) _ _ _ (by rfl) rfl rfl (by exact hrun _) ?_))
        all_goals
          go_wp2
          go_roundw
          case rel =>
            obtain ⟨hr, ho, _⟩ := HD.out 0
            exact ⟨dropF T c, by rw [← keep_gone HF.out.up T hgc]; exact hr, HO4.out.drew.trans ho (fun _ _ h => h), fun d hd => HAL.out d ((mem_drop T c d).1 hd).1⟩
          case measure =>
            obtain ⟨_, _, hm⟩ := HD.out 0
            have h1 : w4.drew.rangeLeft B w.heap.size = w4.rangeLeft B w.heap.size := rfl
            rw [h1, HR4.out.2, HR3.out.2] at hm
            exact Nat.lt_of_le_of_lt hm HLT.out
      · have hgc : g c = false := by simpa using hgc
        rw [hgc] at HCALL
        go_wp2_with fail
        rw [← hw3]
        refine HCALL.out.mono ?_
        rintro e w4 ⟨rfl, hb4⟩
        have HR4 := hide (HR3.out.1.below hb4)
        have HO4 : Hid (Only (· = B) w w4) := HO3.out.trans (Only.below hb4) (fun _ _ h => h)
        clear hb4
        go_wp2
        go_roundw
        case rel => exact ⟨dropF T c, by rw [← keep_stays HF.out.up T hgc]; exact HR4.out.1, HO4.out, fun d hd => HAL.out d ((mem_drop T c d).1 hd).1⟩
        case measure => rw [HR4.out.2, HR3.out.2]; exact HLT.out
end Go.Proofs.Ytliinilbfacpbaa
