/- A disk of package disk in memory, whole: its block and its files' rows. The walks of Sync, Clear. -/
import Derived.Test.YtgobnnciijlpaaaDoorDkB
namespace Go.Proofs.YtgobnnciijlpaaaDoor
open Go.ChangeShapes Go.WideShapes Go.ChangeAt Go.RowKit Go.DsMem Go.DsDk
set_option linter.unusedVariables false

/-- at block p lies a disk that is D, the slices of its files v -/
structure DiskAt (w : World) (p : Nat) (v : Nat → Value) (D : Dk) : Prop where
  blk : DB w p v D.s D.left D.dead
  own : ∀ f, f < 8 → w.ownsRow (p + 1) 5 1 (v f) (D.b f).length (bvs (D.b f))
  sep : ∀ f g, f < 8 → g < 8 → f ≠ g → ∀ k, (v f).ownBlock = some k → (v g).ownBlock ≠ some k
  ok : D.Ok
  few : D.Few

/-- the blocks of a disk -/
def foot (p : Nat) (v : Nat → Value) : Nat → Prop := fun k => k = p ∨ ∃ f, f < 8 ∧ (v f).ownBlock = some k

/-- what a call does to a disk, and to nothing else -/
structure Moved (w : World) (p : Nat) (v : Nat → Value) (w' : World) (v' : Nat → Value) (D' : Dk) : Prop where
  dk : DiskAt w' p v' D'
  only : Only (foot p v) w w'
  grow : ∀ k, foot p v' k → foot p v k ∨ w.heap.size ≤ k

theorem DiskAt.lt {w : World} {p : Nat} {v : Nat → Value} {D : Dk} (h : DiskAt w p v D) : p < w.heap.size := block_lt h.blk
theorem DiskAt.ne {w : World} {p : Nat} {v : Nat → Value} {D : Dk} (h : DiskAt w p v D) {f : Nat} (hf : f < 8) {k : Nat} (hk : (v f).ownBlock = some k) : k ≠ p := by
  have := (h.own f hf).lt k hk; omega
/-- nothing of the disk is touched -/
theorem DiskAt.stays {w w' : World} {p : Nat} {v : Nat → Value} {D : Dk} {S : Nat → Prop} (h : DiskAt w p v D) (ho : Only S w w') (hn : ∀ k, foot p v k → ¬ S k) : DiskAt w' p v D :=
  ⟨h.blk.only ho (hn p (.inl rfl)), fun f hf => own_only (h.own f hf) ho (fun k hk => hn k (.inr ⟨f, hf, hk⟩)), h.sep, h.ok, h.few⟩
theorem DiskAt.below {w w' : World} {p : Nat} {v : Nat → Value} {D : Dk} (h : DiskAt w p v D) (hb : Below w.heap.size w w') : DiskAt w' p v D :=
  h.stays (S := fun _ => False) (Only.below hb) (fun _ _ h => h)
/-- the rows stay where only the disk's own block is written -/
theorem DiskAt.rows {w w' : World} {p : Nat} {v : Nat → Value} {D : Dk} (h : DiskAt w p v D) (ho : Only (· = p) w w') {f : Nat} (hf : f < 8) : w'.ownsRow (p + 1) 5 1 (v f) (D.b f).length (bvs (D.b f)) :=
  own_only (h.own f hf) ho (fun k hk => h.ne hf hk)
theorem only_foot {w w' : World} {p : Nat} {v : Nat → Value} (ho : Only (· = p) w w') : Only (foot p v) w w' := ho.mono fun _ _ h => .inl h

/-- the same slices, other numbers -/
theorem Moved.same {w w' : World} {p : Nat} {v : Nat → Value} {D D' : Dk} (h : DiskAt w p v D) (ho : Only (· = p) w w') (hb : D'.b = D.b) (hd : DB w' p v D'.s D'.left D'.dead) (hok : D'.Ok) (hf : D'.Few) : Moved w p v w' v D' :=
  ⟨⟨hd, fun f h8 => by rw [hb]; exact h.rows ho h8, h.sep, hok, hf⟩, only_foot ho, fun k hk => .inl hk⟩

theorem Only.alloc1 {S : Nat → Prop} {w w2 : World} {o : Obj} (h : Only S (w.alloc o) w2) : Only S w w2 := (Only.alloc S w o).trans h (fun _ _ h => h)

set_option maxHeartbeats 1000000 in
/-- (*Disk).Sync -/
theorem sync_any (p : Nat) (v : Nat → Value) (D : Dk) (f : Int) (w : World) (h : DiskAt w p v D) :
    Calls Tryd.prog 68 #[.pointer (some ⟨p, 0, none⟩), .int .i64 f] w fun e w' => e = .returned (.int .i64 (D.sync f).2) ∧ Moved w p v w' v (D.sync f).1 := by
  have hb1 := h.blk.only (Only.alloc (fun _ => False) w (.cells #[.int .i64 f] 3)) (fun h => h)
  have hst := start_any p v D [f] _ _ hb1 h.few (RdI.new1 w f 3) (by simp)
  simp only [List.all_cons, List.all_nil, Bool.and_true] at hst
  have HS := hide hst
  clear hst hb1
  by_cases h0 : (D.start (okf f)).2 = 0
  · obtain ⟨hf0, hf8⟩ := okf_bd (start_ok h0)
    obtain ⟨k, rfl⟩ := Int.eq_ofNat_of_zero_le hf0
    have hk : k < 8 := by omega
    have HE : Hid (D.sync (k : Int) = ({ (D.start (okf k)).1 with s := upd D.s k (D.b k).length }, 0)) := by
      show D.sync (k : Int) = _
      unfold Dk.sync; rw [if_pos h0]; simp
    obtain ⟨ao, cap, hv, hcap⟩ := own_shape (h.own k hk)
    have HV := hide hv
    clear hv
    have hlen := (h.ok k hk).2
    go_enter Tryd.func68, Tryd.ntmps68
    go_wp2_with (go_at_call 74; refine HS.out.mono ?_; rintro e w' ⟨rfl, hdb, hon⟩; have hcb := hdb.bytes hk; rw [HV.out] at hcb; have hcs := hdb.safe hk; have hfz := hdb.free (k * 2 + 1); have HDB := hide hdb; clear hdb)
    go_region
    all_goals go_wp2
    go_ret
    rw [HE.out]
    refine ⟨rfl, Moved.same h ((Only.alloc1 hon).trans (Only.set _ _ _ _) (fun _ _ h => h)).drew (start_b _ _) ?_ ?_ (h.few.start _)⟩
    · have := HDB.out.setSafe hk (D.b k).length
      rw [start_s] at this
      exact this
    · have := h.ok.sync (k : Int)
      rw [HE.out] at this; exact this
  · have HE : Hid (D.sync f = D.start (okf f)) := by show _ = _; unfold Dk.sync; rw [if_neg h0]
    have hne : ((D.start (okf f)).2 != 0) = true := by simp [h0]
    go_enter Tryd.func68, Tryd.ntmps68
    go_wp2_with (go_at_call 74; refine HS.out.mono ?_; rintro e w' ⟨rfl, hdb, hon⟩; have HDB := hide hdb; clear hdb)
    go_ret
    rw [HE.out]
    exact ⟨rfl, Moved.same h (Only.alloc1 hon) (start_b _ _) HDB.out (h.ok.start _) (h.few.start _)⟩

theorem nil_own (w : World) (B : Nat) : w.ownsRow B 5 1 (.slice none 0 0) ([] : List UInt8).length (bvs []) := World.ownsRow_nil _ _ _ _
/-- a file is emptied -/
theorem Moved.emptied {w w' : World} {p : Nat} {v : Nat → Value} {D D' : Dk} (h : DiskAt w p v D) (ho : Only (· = p) w w') {k : Nat} (hk : k < 8) (hb : D'.b = upd D.b k [])
    (hd : DB w' p (upd v k (.slice none 0 0)) D'.s D'.left D'.dead) (hok : D'.Ok) (hf : D'.Few) : Moved w p v w' (upd v k (.slice none 0 0)) D' := by
  refine ⟨⟨hd, fun f h8 => ?_, fun f g h8 g8 hne i hi => ?_, hok, hf⟩, only_foot ho, fun i hi => ?_⟩
  · rw [hb]
    by_cases e : f = k
    · subst e; rw [upd_same, upd_same]; exact nil_own _ _
    · rw [upd_ne _ _ e, upd_ne _ _ e]; exact h.rows ho h8
  · by_cases e : f = k
    · subst e; rw [upd_same] at hi; simp [Value.ownBlock] at hi
    · rw [upd_ne _ _ e] at hi
      by_cases e2 : g = k
      · subst e2; rw [upd_same]; simp [Value.ownBlock]
      · rw [upd_ne _ _ e2]; exact h.sep f g h8 g8 hne i hi
  · rcases hi with rfl | ⟨f, h8, hfi⟩
    · exact .inl (.inl rfl)
    · by_cases e : f = k
      · subst e; rw [upd_same] at hfi; simp [Value.ownBlock] at hfi
      · rw [upd_ne _ _ e] at hfi; exact .inl (.inr ⟨f, h8, hfi⟩)

set_option maxHeartbeats 1000000 in
/-- (*Disk).Clear -/
theorem clear_any (p : Nat) (v : Nat → Value) (D : Dk) (f : Int) (w : World) (h : DiskAt w p v D) :
    Calls Tryd.prog 67 #[.pointer (some ⟨p, 0, none⟩), .int .i64 f] w fun e w' => e = .returned (.int .i64 (D.clear f).2) ∧ ∃ v', Moved w p v w' v' (D.clear f).1 := by
  have hb1 := h.blk.only (Only.alloc (fun _ => False) w (.cells #[.int .i64 f] 3)) (fun h => h)
  have hst := start_any p v D [f] _ _ hb1 h.few (RdI.new1 w f 3) (by simp)
  simp only [List.all_cons, List.all_nil, Bool.and_true] at hst
  have HS := hide hst
  clear hst hb1
  by_cases h0 : (D.start (okf f)).2 = 0
  · obtain ⟨hf0, hf8⟩ := okf_bd (start_ok h0)
    obtain ⟨k, rfl⟩ := Int.eq_ofNat_of_zero_le hf0
    have hk : k < 8 := by omega
    have HE : Hid (D.clear (k : Int) = ({ (D.start (okf k)).1 with b := upd D.b k [], s := upd D.s k 0 }, 0)) := by
      show D.clear (k : Int) = _
      unfold Dk.clear; rw [if_pos h0]; simp
    go_enter Tryd.func67, Tryd.ntmps67
    go_wp2_with (go_at_call 74; refine HS.out.mono ?_; rintro e w' ⟨rfl, hdb, hon⟩; have hcb := hdb.bytes hk; have hcs := hdb.safe hk; have hfb := hdb.free (k * 2); have hfz := hdb.free (k * 2 + 1); have HDB := hide hdb; clear hdb)
    go_ret
    rw [HE.out]
    refine ⟨rfl, _, Moved.emptied h (((Only.alloc1 hon).trans (Only.set _ _ _ _) (fun _ _ h => h)).trans (Only.set _ _ _ _) (fun _ _ h => h)) hk rfl ?_ ?_ (h.few.start _)⟩
    · have := (HDB.out.setBytes hk (.slice none 0 0)).setSafe hk 0
      rw [start_s] at this
      exact this
    · have := h.ok.clear (k : Int)
      rw [HE.out] at this; exact this
  · have HE : Hid (D.clear f = D.start (okf f)) := by show _ = _; unfold Dk.clear; rw [if_neg h0]
    have hne : ((D.start (okf f)).2 != 0) = true := by simp [h0]
    go_enter Tryd.func67, Tryd.ntmps67
    go_wp2_with (go_at_call 74; refine HS.out.mono ?_; rintro e w' ⟨rfl, hdb, hon⟩; have HDB := hide hdb; clear hdb)
    go_ret
    rw [HE.out]
    exact ⟨rfl, v, Moved.same h (Only.alloc1 hon) (start_b _ _) HDB.out (h.ok.start _) (h.few.start _)⟩
end Go.Proofs.YtgobnnciijlpaaaDoor
