/- The walk of Copy of package disk. -/
import Derived.Test.YtgobnnciijlpaaaDkH
namespace Go.Proofs.Ytgobnnciijlpaaa
open Go.ChangeShapes Go.WideShapes Go.ChangeAt Go.RowKit Go.DsMem Go.DsDk
set_option linter.unusedVariables false

/-- a copy of which the first k files are done -/
structure Half (w : World) (q : Nat) (u v : Nat → Value) (D : Dk) (k : Nat) : Prop where
  blk : DB w q u D.s D.left D.dead
  old : ∀ f, f < 8 → k ≤ f → u f = v f
  own : ∀ f, f < 8 → f < k → w.ownsRow (q + 1) 5 1 (u f) (D.b f).length (bvs (D.b f))
  sep : ∀ f g, f < 8 → g < 8 → f < k → g < k → f ≠ g → ∀ i, (u f).ownBlock = some i → (u g).ownBlock ≠ some i

theorem Half.step {w w2 : World} {q : Nat} {u v : Nat → Value} {D : Dk} {k : Nat} (h : Half w q u v D k) (hk : k < 8) {x : Value} (hb : Below w.heap.size w w2)
    (hx : w2.ownsRow w.heap.size 5 1 x (D.b k).length (bvs (D.b k))) : Half (w2.setCell ⟨q, k * 2, none⟩ x) q (upd u k x) v D (k + 1) := by
  have hq : q < w.heap.size := block_lt h.blk
  have ho : Only (· = q) w (w2.setCell ⟨q, k * 2, none⟩ x) := (Only.below hb).trans (Only.set _ _ _ _) (fun _ _ h => h)
  have hset := Only.set w2 q (k * 2) x
  have hnew : ∀ i, x.ownBlock = some i → w.heap.size ≤ i := fun i hi => (hx.lt i hi).1
  refine ⟨(h.blk.only (S := fun _ => False) (Only.below hb) (fun h => h)).setBytes hk x, fun f hf hkf => ?_, fun f hf hkf => ?_, fun f g hf hg hkf hkg hne i hi => ?_⟩
  · rw [upd_ne _ _ (by omega)]; exact h.old f hf (by omega)
  · by_cases e : f = k
    · subst e; rw [upd_same]
      exact own_only (own_base hx (by omega)) hset (fun i hi e => by have := hnew i hi; omega)
    · rw [upd_ne _ _ e]
      have hof := h.own f hf (by omega)
      exact own_only hof ho (fun i hi e => by have := (hof.lt i hi).1; omega)
  · by_cases e : f = k
    · subst e; rw [upd_same] at hi; rw [upd_ne _ _ (by omega)]
      intro hgi
      have h1 := hnew i hi
      have h2 := ((h.own g hg (by omega)).lt i hgi).2
      omega
    · rw [upd_ne _ _ e] at hi
      by_cases e2 : g = k
      · subst e2; rw [upd_same]
        intro hgi
        have h1 := hnew i hgi
        have h2 := ((h.own f hf (by omega)).lt i hi).2
        omega
      · rw [upd_ne _ _ e2]; exact h.sep f g hf hg (by omega) (by omega) hne i hi

theorem size55 : (Try.prog.info? 55).map (·.size) = some 18 := by kernel_rfl
set_option maxHeartbeats 2000000 in
/-- (*Disk).Copy -/
theorem copy_any (p : Nat) (v : Nat → Value) (D : Dk) (w : World) (hAt : DiskAt w p v D) :
    Calls Try.prog 10 #[.pointer (some ⟨p, 0, none⟩)] w fun e w' => e = .returned (.pointer (some ⟨w.heap.size, 0, none⟩)) ∧
      (∃ v', DiskAt w' w.heap.size v' D) ∧ Below w.heap.size w w' := by
  obtain ⟨cs, hcs⟩ : ∃ cs, cs = (dcells v D.s D.left D.dead).toArray := ⟨_, rfl⟩
  have hh : w.heap[p]? = some (.cells cs 55 (0, 0)) := by rw [hcs]; exact hAt.blk
  have hsz : cs.size = 18 := by rw [hcs]; rfl
  have hone : cs.all (·.oneCell') = true := by
    rw [hcs]
    have hf : ∀ f, f < 8 → (v f).oneCell' = true := fun f hf => by obtain ⟨_, _, e, _⟩ := own_shape (hAt.own f hf); rw [e]; rfl
    simp only [dcells, List.all_toArray, List.all_cons, List.all_nil, hf 0 (by omega), hf 1 (by omega), hf 2 (by omega), hf 3 (by omega), hf 4 (by omega), hf 5 (by omega), hf 6 (by omega), hf 7 (by omega)]
    rfl
  have HCS := hide hcs
  have HH := hide hh
  have HSZ := hide hsz
  have HONE := hide hone
  clear hcs hh hsz hone
  go_enter Try.func10, Try.ntmps10
  go_wp2_with (first
    | (refine wpList_load_whole rfl (.tmp 8) 55 rfl p 55 (0, 0) cs _ (by rfl) (by exact HH.out) Try.underlying55 rfl (by rw [HSZ.out]; exact size55) ?_)
    | (refine wpList_store_whole rfl (.tmp 3) (.tmp 9) 55 rfl w.heap.size 55 _ cs (by rfl) (by rfl) (by exact heap_alloc_new w _) (by rw [HSZ.out]; exact size55) (by rw [HSZ.out]; rfl) (by exact HONE.out) ?_; rw [World.setRow_alloc_new]))
  go_loopw [10] (fun i wr => ∃ k : Nat, k ≤ 8 ∧ i = .int .i64 k ∧ (∃ u, Half wr w.heap.size u v D k) ∧ Below w.heap.size w wr) (fun i _ => 8 - (intOf i).toNat)
  case atStart =>
    refine ⟨0, Nat.zero_le _, rfl, ⟨v, ⟨?_, fun _ _ _ => rfl, fun f _ h => by omega, fun f g _ _ h => by omega⟩⟩, (Below.refl _ _).alloc (Nat.le_refl _) _⟩
    have := heap_alloc_new w (.cells cs 55)
    unfold DB
    rw [this, HCS.out]
  case round =>
    obtain ⟨k, hk8, rfl, ⟨u, hh⟩, hbel⟩ := hrel
    by_cases hlt : k < 8
    · obtain ⟨ao2, cap2, hv, hcap⟩ := own_shape (hAt.own k hlt)
      have hA2 := hAt.below hbel
      have hcb := hA2.blk.bytes hlt
      rw [hv] at hcb
      have hrd := Rd.own (hA2.own k hlt)
      rw [hv] at hrd
      have HRD := hide hrd
      have hlen := (hAt.ok k hlt).2
      have HHF := hide hh
      have HB := hide hbel
      have hqs := block_lt hh.blk
      clear hv hrd hA2 hh hbel
      go_wp2_with (go_at_call 26; refine (copied_any (D.b k) _ _ HRD.out (by omega)).mono ?_; rintro e w2 ⟨x, rfl, hx, hb2⟩; have hdb2 := HHF.out.blk.only (S := fun _ => False) (Only.below hb2) (fun h => h); have hc2 := hdb2.bytes hlt; have hf2 := hdb2.free (k * 2); obtain ⟨ao3, cap3, rfl, _⟩ := own_shape hx; have HX := hide hx; have HB2 := hide hb2; clear hx hb2 hdb2)
      go_roundw
      case rel => exact ⟨k + 1, by omega, by go_num, ⟨_, HHF.out.step hlt HB2.out HX.out⟩, (HB.out.trans (HB2.out.mono (by omega))).setCell (Nat.le_refl _) _⟩
      case measure => simp [intOf]; omega
    · obtain rfl : k = 8 := by omega
      have HHF := hide hh
      have HB := hide hbel
      clear hh hbel
      go_wp2
      go_ret
      exact ⟨rfl, ⟨u, ⟨HHF.out.blk, fun f hf => HHF.out.own f hf hf, fun f g hf hg hne => HHF.out.sep f g hf hg hf hg hne, hAt.ok, hAt.few⟩⟩, HB.out⟩
theorem copy_nil (w : World) : Calls Try.prog 10 #[.pointer none] w fun e w' => e = .returned (.pointer none) ∧ w' = w := by
  go_enter Try.func10, Try.ntmps10
  go_wp2
  go_ret
  exact ⟨rfl, rfl⟩
end Go.Proofs.Ytgobnnciijlpaaa
