/- The walks of dayshiftref01: Lent, Kept, Spoil. -/
import Derived.Test.YtgobnnciijlpaaaDoorDkH
import Derived.Test.YtgobnnciijlpaaaDoorApp
import Derived.Test.YtgobnnciijlpaaaDoorGrow
import Derived.Laws.Concat
namespace Go.DsMem
open Go.RowKit

/-- what stands behind bytes that are lent -/
def pad8 : List UInt8 := [165, 165, 165, 165, 165, 165, 165, 165]
theorem run_append_rd_room {P : Program} {w : World} {base : Nat} {t e : TypeId} (ty : TypeId) (ht : P.underlying t = some (.slice e)) (hinfo : (P.info? e).map (fun i => (i.zero, i.size, i.bytes)) = some (some (.int .u8 0), 1, 1))
    {g n cap : Nat} {l : List UInt8} (hown : w.ownsRow base e 1 (.slice (some ⟨g, 0, none⟩) n cap) n (bvs l)) {sl : Value} {b : List UInt8} (hrd : Rd w sl b) (hroom : n + b.length ≤ cap) (hbytes : n + b.length ≤ 140737488355328) (hbase : base ≤ w.heap.size) :
    ∃ w', (Builtin.append_ #[t, t] ty #[.slice (some ⟨g, 0, none⟩) n cap, sl]).run P w = .ok (.slice (some ⟨g, 0, none⟩) (n + b.length) cap) w' ∧ w'.ownsRow base e 1 (.slice (some ⟨g, 0, none⟩) (n + b.length) cap) (n + b.length) (bvs (l ++ b)) ∧
      w.grownBy w' (some g) := by
  obtain ⟨v', w', hr, h2, h3, _⟩ := run_append_rd (P := P) ty ht hinfo hown hrd hbytes hbase
  suffices hv : v' = .slice (some ⟨g, 0, none⟩) (n + b.length) cap by subst hv; exact ⟨w', hr, h2, h3⟩
  obtain ⟨i0, hi, hz0, hz1, hz2⟩ := info_parts hinfo
  obtain ⟨ao, c, rfl, hlc, hnil, hrd⟩ := hrd
  cases ao with
  | none =>
    obtain ⟨h0, rfl⟩ := hnil rfl
    have hr2 := run_append_owned_none (P := P) w base t ty e i0 1 ht hi _ n _ hown
    rw [h0] at hr ⊢
    rw [hr] at hr2
    exact (Result.ok.inj hr2).1
  | some a =>
    obtain ⟨cur, hg, hcl, _, _, _, _⟩ := own_row hown
    have hr2 := run_append_room (P := P) w t ty e i0 ht hi g n cap cur.toArray hg a b.length c (bvs b) (by rw [bvs_length, hz1]; omega)
      (fun j u hj => by rw [bvs_get] at hj; obtain ⟨x, hx, rfl⟩ := Option.map_eq_some_iff.1 hj; exact hrd a rfl j x hx) (bvs_one b) hroom (by rw [bvs_length, hz1]; simp [hcl]; omega)
    rw [hr] at hr2
    exact (Result.ok.inj hr2).1
theorem wpList_append_room {P : Program} {w : World} {ops : Array Oper} {rest : List Oper} {o : Oper} {a : Act} {Q : Exit → Act → World → Prop}
    (hg : o.guard = none) (s x : Operand) (t : TypeId) (hop : o.op = Op.call { callee := Callee.builtin Builtin.append, args := #[s, x], argTypes := #[t, t] })
    (e : TypeId) (ht : P.underlying t = some (.slice e)) (hinfo : (P.info? e).map (fun i => (i.zero, i.size, i.bytes)) = some (some (.int .u8 0), 1, 1))
    (base g n cap : Nat) (l : List UInt8) (hs : a.eval s = .slice (some ⟨g, 0, none⟩) n cap) (hown : w.ownsRow base e 1 (.slice (some ⟨g, 0, none⟩) n cap) n (bvs l)) (sl : Value) (b : List UInt8) (hx : a.eval x = sl) (hrd : Rd w sl b)
    (m : Nat) (hm : n + b.length = m) (hroom : n + b.length ≤ cap) (hbytes : n + b.length ≤ 140737488355328) (hbase : base ≤ w.heap.size)
    (hK : ∀ w', w'.ownsRow base e 1 (.slice (some ⟨g, 0, none⟩) m cap) m (bvs (l ++ b)) → w.grownBy w' (some g) → wpList P ops Q rest (a.put o.dst (.slice (some ⟨g, 0, none⟩) m cap)) w') : wpList P ops Q (o :: rest) a w := by
  subst hm
  refine wpList_plain hg fun K hK' => ?_
  obtain ⟨w', hr, h2, h3⟩ := run_append_rd_room (P := P) o.type ht hinfo hown hrd hroom hbytes hbase
  unfold Oper.wp execOp
  simp only [hop, resolve, invoke, builtin, Sem.run_bind, Sem.run_pure, Result.andThen_ok, List.map_toArray, List.map_cons, List.map_nil, hs, hx, hr]
  exact hK' _ _ (hK w' h2 h3)
theorem Rd.lit (w : World) (bs : List UInt8) (t : TypeId) (fr : Nat × Nat) : Rd (w.alloc (.cells (bvs bs).toArray t fr)) (.slice (some ⟨w.heap.size, 0, none⟩) bs.length bs.length) bs := by
  refine ⟨_, bs.length, rfl, Nat.le_refl _, fun h => (by cases h), fun c hc j u hu => ?_⟩
  obtain rfl : (⟨w.heap.size, 0, none⟩ : Addr) = c := Option.some.inj hc
  rw [add_mk]
  unfold World.cell?
  rw [heap_alloc_new w]
  show (bvs bs).toArray[0 + j]? = _
  rw [Nat.zero_add, List.getElem?_toArray]
  unfold bvs
  rw [List.getElem?_map, hu]
  rfl

theorem Rd.part {w : World} {a : Addr} {n c m d : Nat} {l r : List UInt8} (h : Rd w (.slice (some a) n c) l) (hr : r <+: l) (hm : m = r.length) (hd : m ≤ d) : Rd w (.slice (some a) m d) r := by
  subst hm
  obtain ⟨ao, cap, hs, hl, hn, hrd⟩ := h
  simp only [Value.slice.injEq] at hs
  obtain ⟨rfl, _, _⟩ := hs
  refine ⟨_, d, rfl, hd, fun h => (by cases h), fun x hx j u hu => ?_⟩
  obtain ⟨t, rfl⟩ := hr
  exact hrd x hx j u (by rw [List.getElem?_append_left (List.getElem?_eq_some_iff.1 hu).1]; exact hu)
end Go.DsMem
namespace Go.Proofs.YtgobnnciijlpaaaDoor
open Go.ChangeShapes Go.WideShapes Go.ChangeAt Go.RowKit Go.DsMem Go.DsDk
set_option linter.unusedVariables false

/-- bytes b that are lent, in the block g, with what stands behind them -/
def LentAt (B : Nat) (w : World) (g : Nat) (b : List UInt8) : Prop := w.ownsRow B 5 1 (.slice (some ⟨g, 0, none⟩) (b.length + 8) (b.length + 8)) (b.length + 8) (bvs (b ++ pad8))
theorem LentAt.rd {B : Nat} {w : World} {g : Nat} {b : List UInt8} (h : LentAt B w g b) : Rd w (.slice (some ⟨g, 0, none⟩) b.length (b.length + 8)) b :=
  (Rd.own h).part ⟨pad8, rfl⟩ rfl (by omega)
theorem LentAt.own {B : Nat} {w : World} {g : Nat} {b : List UInt8} (h : LentAt B w g b) : w.ownsRow B 5 1 (.slice (some ⟨g, 0, none⟩) b.length (b.length + 8)) b.length (bvs b) := by
  obtain ⟨cur, hg, hcl, hx, h1, h2, hB⟩ := own_row h
  refine own_mk hg hcl ?_ (by omega) h2 hB
  rw [← List.take_of_length_le (l := cur) (i := b.length + 8) (by omega), hx, bvs_append]
  rw [List.take_append_of_le_length (by rw [bvs_length]; omega), List.take_of_length_le (by rw [bvs_length]; omega)]

set_option maxHeartbeats 1000000 in
set_option maxRecDepth 10000 in
/-- dayshiftref01.Lent -/
theorem lent_any (b : List UInt8) (sl : Value) (w : World) (h : Rd w sl b) (hl : b.length ≤ 140737488351232) :
    Calls Tryd.prog 14 #[sl] w fun e w' => e = .returned (.slice (some ⟨w.heap.size, 0, none⟩) b.length (b.length + 8)) ∧ LentAt w.heap.size w' w.heap.size b ∧ Below w.heap.size w w' := by
  obtain ⟨i0, hi, hz0, hz1, hz2⟩ := info_parts info5
  have HR := hide h
  obtain ⟨ao, cap, rfl, hlc, hnil, hrd⟩ := h
  clear hnil hrd
  go_enter Tryd.func14, Tryd.ntmps14
  go_wp2_with (first
    | (at_make; refine wpList_make_own _ rfl _ _ 28 rfl w.heap.size 5 i0 (.int .u8 0) 1 Tryd.underlying28 hi hz0 hz1 _ _ _ (b.length + 8) rfl rfl (by omega) (by rw [hz2]; omega) (by unfold maxLen; omega) (Nat.le_refl _) ?_; intro w1 hown1 hgrow1; have HO1 := hide hown1; have HB1 := hide ((Below.refl w.heap.size w).grown hgrow1 (Nat.le_refl _) (fun _ h => by cases h)); clear hown1 hgrow1)
    | (at_builtin; refine wpList_append_room rfl _ _ 28 rfl 5 Tryd.underlying28 info5 w.heap.size w.heap.size 0 (b.length + 8) [] rfl HO1.out _ b rfl (rd_in HR.out HB1.out (Nat.le_refl _)) b.length (by omega) (by omega) (by omega) HB1.out.size ?_; intro w2 hown2 hgrow2; have HO2 := hide hown2; have HB2 := hide (HB1.out.grown hgrow2 HB1.out.size (fun k hk => by cases hk; exact Nat.le_refl _)); clear hown2 hgrow2 HO1 HB1)
    | (at_builtin; refine wpList_append_room rfl _ _ 28 rfl 5 Tryd.underlying28 info5 w.heap.size w.heap.size b.length (b.length + 8) _ rfl (HO2.out.alloc _) _ pad8 rfl (by exact Rd.lit w2 pad8 _ _) (b.length + 8) rfl (by show b.length + 8 ≤ _; omega) (by show b.length + 8 ≤ _; omega) (by have := HB2.out.size; simp; omega) ?_; intro w3 hown3 hgrow3; have HO3 := hide hown3; have HB3 := hide ((HB2.out.alloc HB2.out.size _).grown hgrow3 (by have := HB2.out.size; simp; omega) (fun k hk => by cases hk; exact Nat.le_refl _)); clear hown3 hgrow3 HO2 HB2))
  go_ret
  exact ⟨rfl, HO3.out, HB3.out⟩

theorem text_beq (a b : List UInt8) : ((bstr a).toList == (bstr b).toList) = decide (a = b) := by
  unfold bstr
  rw [ByteArray.toList_mk, ByteArray.toList_mk]
  by_cases h : a = b
  · subst h; simp
  · simp [h]
theorem text_ne {a b : List UInt8} (h : ¬ a = b) : ((bstr a).toList == (bstr b).toList) = false := by rw [text_beq]; simp [h]
theorem bstr_append (a b : List UInt8) : bstr a ++ bstr b = bstr (a ++ b) := by
  apply ByteArray.ext
  simp [bstr]
set_option maxHeartbeats 1000000 in
/-- dayshiftref01.Kept -/
theorem kept_any (B g : Nat) (b : List UInt8) (sl : Value) (w : World) (hL : LentAt B w g b) (h : Rd w sl b) (hl : b.length ≤ 140737488351232) :
    Calls Tryd.prog 17 #[.slice (some ⟨g, 0, none⟩) b.length (b.length + 8), sl] w fun e w' => e = .returned (.bool true) ∧ Below w.heap.size w w' := by
  have hne := grow_ne w
  have h1 := fun X : Grow w => run_conv_rd (P := Tryd.prog) Tryd.underlying28 Tryd.underlying5 Tryd.underlying9 (hL.rd.below X.2)
  have h2 := fun X : Grow w => run_conv_rd (P := Tryd.prog) Tryd.underlying28 Tryd.underlying5 Tryd.underlying9 (h.below X.2)
  have h3 := fun X : Grow w => run_conv_rd (P := Tryd.prog) Tryd.underlying28 Tryd.underlying5 Tryd.underlying9 ((Rd.own hL).below X.2)
  have h10 := h1 ⟨w, Below.refl _ _⟩
  have h20 := h2 ⟨w, Below.refl _ _⟩
  obtain ⟨ao, cap, rfl, hlc, hnil, hrd⟩ := h
  clear hnil hrd
  have he : bstr b ++ (⟨#[165, 165, 165, 165, 165, 165, 165, 165]⟩ : ByteArray) = bstr (b ++ pad8) := bstr_append b pad8
  have hadd : ∀ W : World, (Op.stringOp .add (bstr b) (⟨#[165, 165, 165, 165, 165, 165, 165, 165]⟩ : ByteArray)).run Tryd.prog W = .ok (.string (bstr (b ++ pad8))) W := fun W => by
    rw [run_string_add_sum _ _ _ (by show b.toArray.size + 8 ≤ _; simp; omega), he]
  clear he
  generalize bstr (b ++ pad8) = t2 at *
  generalize bstr b = t1 at *
  go_enter Tryd.func17, Tryd.ntmps17
  go_wp2
  refine wp_region_grow (by kernel_rfl) (by kernel_rfl) ?_
  repeat (go_big_quiet_step (fail))
  refine wpQuiet_nil ?_
  intro _ hw'
  obtain ⟨X, rfl⟩ := hw'
  have HX := hide X.2
  clear h1 h2 h3 hadd hne
  go_wp2
  go_ret
  exact ⟨rfl, HX.out⟩

set_option maxHeartbeats 1000000 in
/-- dayshiftref01.Spoil -/
theorem spoil_any (B n : Nat) (v : Value) (xs : List Value) (w : World) (h : w.ownsRow B 5 1 v n xs) :
    Calls Tryd.prog 18 #[v] w fun e w' => e = .returned (.tuple #[]) ∧ Only (fun k => v.ownBlock = some k) w w' := by
  rcases h.2 with ⟨rfl, rfl⟩ | ⟨g, cap, cur, rfl, hb, hg, h1, h2, h3, h4⟩
  · go_enter Tryd.func18, Tryd.ntmps18
    go_wp2
    go_loop [2] (fun i => i = .int .i64 0) (fun _ => 0)
    case atStart => rfl
    case round =>
      subst hrel
      go_wp2
      go_end0
      exact ⟨rfl, Only.refl _ _⟩
  · have HG := hide hg
    clear hg h4 h
    rw [Nat.mul_one] at h3
    have hcm : n ≤ 9223372036854775807 := by unfold maxLen at h2; omega
    go_enter Tryd.func18, Tryd.ntmps18
    go_wp2
    go_loopw [2] (fun i wr => ∃ k : Nat, k ≤ n ∧ i = .int .i64 k ∧ Only (· = g) w wr ∧ ∃ cs : Array Value, wr.heap[g]? = some (.cells cs 5 (0, 0)) ∧ n ≤ cs.size) (fun i _ => n - (intOf i).toNat)
    case atStart => exact ⟨0, Nat.zero_le _, rfl, Only.refl _ _, cur, HG.out, by omega⟩
    case round =>
      obtain ⟨k, hk, rfl, ho, cs, hcs, hn⟩ := hrel
      by_cases hlt : k < n
      · have hc := cell_of (k := k) hcs
        have hf := frozen_of (k := k) hcs
        rw [Array.getElem?_eq_getElem (by omega)] at hc
        have HO := hide ho
        have HC := hide hcs
        clear ho hcs
        go_wp2
        refine ⟨⟨k + 1, by omega, by go_num, HO.out.trans (Only.set _ _ _ _) (fun _ _ h => h), _, hset_same HC.out _, by simpa using hn⟩, by simp [intOf]; omega⟩
      · have HO := hide ho
        clear ho hcs
        go_wp2
        go_end0
        exact ⟨rfl, HO.out.mono fun i _ h => by rw [h]; rfl⟩
end Go.Proofs.YtgobnnciijlpaaaDoor
