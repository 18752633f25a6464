/- Package pool: Give, Resize. -/
import Derived.Test.YtkpambipgcjaiaaPlI
namespace Go.DsMap
open Go.ChangeShapes Go.WideShapes Go.ChangeAt Go.RowKit Go.DsMem
section
variable {P : Program} {t k e : TypeId} {κ ν : Type} {kv : κ → Value} {ev : ν → Value} {fit : κ → Prop}
variable (w : World) {ops : Array Oper} {rest : List Oper} {o : Oper} {a : Act} {Q : Exit → Act → World → Prop}
/-- 'delete(m, k)' -/
theorem wpList_delete_mp (K : MK P t k e kv ev fit) (hg : o.guard = none) (m x : Operand) (hop : o.op = Op.call { callee := Callee.builtin Builtin.delete, args := #[m, x], argTypes := #[t, k] }) (B : Nat) (L : List (κ × ν))
    (hm : a.eval m = .map (some B)) (h : Mp P k kv ev fit w B L) (c : κ) (hc : fit c) (hx : a.eval x = kv c)
    (hK : ∀ w', Mp P k kv ev fit w' B (delL L c) → Only (· = B) w w' → wpList P ops Q rest (a.put o.dst (.tuple #[])) w') : wpList P ops Q (o :: rest) a w := by
  refine wpList_plain hg fun K' hK' => ?_
  obtain ⟨w', hrun, r1, r2⟩ := h.del K hc o.type
  unfold Oper.wp
  simp [execOp, hop, resolve, invoke, builtin, hm, hx, hrun, Result.andThen]
  exact hK' _ _ (hK w' r1 r2)
/-- 'len(m)' -/
theorem wpList_len_mp (K : MK P t k e kv ev fit) (hg : o.guard = none) (m : Operand) (hop : o.op = Op.call { callee := Callee.builtin Builtin.len, args := #[m], argTypes := #[t] }) (B : Nat) (L : List (κ × ν))
    (hm : a.eval m = .map (some B)) (h : Mp P k kv ev fit w B L) (hK : wpList P ops Q rest (a.put o.dst (.int .i64 L.length)) w) : wpList P ops Q (o :: rest) a w := by
  refine wpList_plain hg fun K' hK' => ?_
  unfold Oper.wp
  simp [execOp, hop, resolve, invoke, builtin, hm, h.len K o.type, Result.andThen]
  exact hK' _ _ hK
end
end Go.DsMap
namespace Go.Proofs.Ytkpambipgcjaiaa
open Go.ChangeShapes Go.WideShapes Go.ChangeAt Go.RowKit Go.DsMem Go.DsCo Go.DsPl Go.DsMap
set_option linter.unusedVariables false
set_option linter.unusedSimpArgs false
open Classical in
/-- what is held while names T are still to come -/
noncomputable def leftH (H : List Hd) (o : Int) (T : List Rk) : List Hd := H.filter fun h => decide (h.1.1 ≠ o ∨ h.1.2 ∈ T.map (·.1))
theorem leftH_all {H : List Hd} {o : Int} {R : List Rk} (h : ∀ x ∈ H, x.1.2 ∈ R.map (·.1)) : leftH H o R = H := by
  unfold leftH
  exact List.filter_eq_self.2 fun x hx => by simp [h x hx]
theorem leftH_nil {H : List Hd} {o : Int} : leftH H o [] = giveF H o := by
  unfold leftH giveF
  apply List.filter_congr
  intro x hx
  simp
theorem leftH_step {H : List Hd} {o : Int} {T : List Rk} (nm : ByteArray) : delL (leftH H o T) (o, nm) = leftH H o (delL T nm) := by
  unfold leftH
  unfold delL
  rw [List.filter_filter]
  apply List.filter_congr
  rintro ⟨⟨o', s⟩, x⟩ hx
  rw [Bool.eq_iff_iff]
  simp only [Bool.and_eq_true, decide_eq_true_eq]
  constructor
  · rintro ⟨h1, h2⟩
    by_cases e : o' = o
    · subst e
      rcases h2 with h2 | h2
      · exact absurd rfl h2
      · right
        obtain ⟨p, hp, rfl⟩ := List.mem_map.1 h2
        have hne : p.1 ≠ nm := fun e => h1 (by rw [e])
        exact List.mem_map.2 ⟨p, List.mem_filter.2 ⟨hp, by simpa using hne⟩, rfl⟩
    · exact .inl e
  · rintro (h | h)
    · exact ⟨fun e => h (congrArg Prod.fst e), .inl h⟩
    · obtain ⟨p, hp, e⟩ := List.mem_map.1 h
      obtain ⟨hp, hne⟩ := List.mem_filter.1 hp
      have hne : p.1 ≠ nm := by simpa using hne
      exact ⟨fun e2 => hne (e.trans (congrArg Prod.snd e2)), .inr (List.mem_map.2 ⟨p, hp, e⟩)⟩
set_option maxHeartbeats 4000000 in
set_option maxRecDepth 20000 in
/-- (*pool.Pool).Give -/
theorem give_any (o : Int) (ho : -9223372036854775808 ≤ o ∧ o ≤ 9223372036854775807) (p a b : Nat) (R : List Rk) (H : List Hd) (w : World) (h : PoAt w p a b R H) (hH : H.length ≤ 1000000) : Calls Try.prog 19 #[ptr p, .int .i64 o] w fun e w' => e = .returned (.int .i64 ((H.length : Int) - (giveF H o).length)) ∧ PoAt w' p a b R (giveF H o) ∧ Only (· = b) w w' := by
  have hlt := h.lt
  have c0 := h.c0
  have c1 := h.c1
  have hab := h.ab
  have hpa := h.pa
  have hpb := h.pb
  have HP := hide h
  have HM := hide h.mks
  have HH := hide h.mhs
  have HRS := hide h.fine.rs
  have HIN : Hid (∀ x ∈ H, x.1.2 ∈ R.map (·.1)) := hide (fun x hx => by
    obtain ⟨k, hk, _⟩ := h.fine.hin x hx
    exact List.mem_map.2 ⟨_, findK_in hk, rfl⟩)
  have hgl : (giveF H o).length ≤ H.length := List.length_filter_le _ _
  clear h
  unfold ptr
  go_enter Try.func19, Try.ntmps19
  go_wp2_with (first
    | (at_len; refine wpList_len_mp _ mkH rfl _ rfl b H rfl HH.out ?_)
    | (at_range; refine wpList_range_mp _ mkK rfl _ rfl a R rfl HM.out ?_; intro w1 hr1 hb1 hs1)
    | go_in)
  try go_frame
  have HR1 := hide hr1
  have HB1 := hide hb1
  obtain ⟨r, hr⟩ : ∃ r, r = w.heap.size := ⟨_, rfl⟩
  rw [← hr] at HR1 hs1
  rw [← hr]
  have HRE := hide hr
  have HH1 : Hid (MpH w1 b (leftH H o R)) := hide (by rw [leftH_all HIN.out]; exact HH.out.below hb1)
  have HO1 : Hid (Only (· = b) w w1) := hide (Only.below hb1)
  clear hr1 hb1 c0 c1 hr hs1
  go_loopw [6] (fun _ wr => ∃ T : List Rk, Rg Try.prog 9 (fun s : ByteArray => Value.string s) kdV FitN wr a r R T ∧ MpH wr b (leftH H o T) ∧ Only (· = b) w wr) (fun _ wr => wr.rangeLeft a r)
  case atStart => exact ⟨R, HR1.out, HH1.out, HO1.out⟩
  case round =>
    obtain ⟨T, hrg, hmh, hon⟩ := hrel
    have HRG := hide hrg
    have HMH := hide hmh
    have HON := hide hon
    have d1 : wr.cell? ⟨p, 1, none⟩ = some (.map (some b)) := hon.cell HP.out.c1 hpb
    clear hrg hmh hon HR1 HH1 HO1
    go_wp2_with (first
      | (at_next; refine wpList_next_mp _ mkK rfl _ rfl a r R T rfl HRG.out ?_ ?_)
      | go_in)
    · intro hT
      subst hT
      rw [leftH_nil] at HMH
      go_wp2_with (first
        | (at_len; refine wpList_len_mp _ mkH rfl _ rfl b (giveF H o) rfl HMH.out ?_)
        | go_in)
      go_ret
      refine ⟨rfl, ⟨?_, HP.out.mks.only HON.out hab, HMH.out, hab, HP.out.fine.give o⟩, HON.out⟩
      rw [HON.out.block p HP.out.lt.1 hpb]; exact HP.out.blk
    · intro nm k w2 hcT hrg2 hlt2 ho2 hsz2 hen
      have hxR := HRG.out.sub _ hcT
      have hfs : FitN nm := HRS.out _ hxR
      have hbr := HRG.out.lt
      have hrw : r = w.heap.size := HRE.out
      have hrb : ¬ r = b := by omega
      have d2 : w2.cell? ⟨p, 1, none⟩ = some (.map (some b)) := ho2.cell d1 (by simp only; omega)
      have HM2 := hide (HMH.out.only ho2 (fun e => hrb e.symm))
      have HON2 : Hid (Only (· = b) w w2) := hide (HON.out.trans (ho2.mono (T := fun i => i = r) (fun _ _ e => e)) (fun i hi e => absurd e (by omega)))
      have HRG2 := hide hrg2
      have hlt2' := hide hlt2
      clear hrg2 ho2 d1 hlt2 hrw
      go_wp2_with (first
        | (at_delete; refine wpList_delete_mp _ mkH rfl _ _ rfl b (leftH H o T) rfl HM2.out (o, nm) ⟨hfs, ho⟩ rfl ?_; intro w3 hm3 ho3)
        | go_in)
      obtain ⟨hg3, hl3⟩ := HRG2.out.only ho3 hab hrb
      have HG3 := hide hg3
      rw [leftH_step] at hm3
      have HM3 := hide hm3
      have HON3 := hide (HON2.out.trans ho3 (fun _ _ h => h))
      have hl : w3.rangeLeft a r < wr.rangeLeft a r := by rw [hl3]; exact hlt2'.out
      clear hg3 hm3 ho3 hl3
      try go_frame
      go_wp2
      go_roundw
      case rel => exact ⟨_, HG3.out, HM3.out, HON3.out⟩
      case measure => exact hl
theorem give_nil (o : Int) (w : World) : Calls Try.prog 19 #[.pointer none, .int .i64 o] w fun e w' => e = .returned (.int .i64 0) ∧ w' = w := by
  go_enter Try.func19, Try.ntmps19
  go_wp2
  go_ret
  exact ⟨rfl, rfl⟩
end Go.Proofs.Ytkpambipgcjaiaa
