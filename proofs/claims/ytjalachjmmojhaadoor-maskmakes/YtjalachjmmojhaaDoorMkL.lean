/- The walk of MaskMakes. -/
import Derived.Test.YtjalachjmmojhaaDoorRmF
import Derived.Deep.RegionLaw
namespace Go.Proofs.YtjalachjmmojhaaDoor
open Go.ChangeShapes Go.WideShapes Go.ChangeAt Go.RowKit Go.DsMem Go.DsMk
set_option linter.unusedVariables false

theorem rdi_in {W w : World} {sl : Value} {ns : List Int} (h : RdI W sl ns) (hb : Below W.heap.size W w) : RdI w sl ns := h.mono fun _ _ hc => Below.keeps hb (Nat.le_refl _) hc
/-- numbers behind a row of numbers, from a slice that reads as them -/
theorem run_append_rdi {P : Program} {w : World} {base : Nat} {t e : TypeId} (ty : TypeId) (ht : P.underlying t = some (.slice e)) (hinfo : (P.info? e).map (fun i => (i.zero, i.size, i.bytes)) = some (some (.int .i64 0), 1, 8))
    {v : Value} {n : Nat} {l : List Int} (hown : w.ownsRow base e 1 v n (i64s l)) {sl : Value} {b : List Int} (hrd : RdI w sl b) (hbytes : n + b.length ≤ 17592186044416) (hbase : base ≤ w.heap.size) :
    ∃ v' w', (Builtin.append_ #[t, t] ty #[v, sl]).run P w = .ok v' w' ∧ w'.ownsRow base e 1 v' (n + b.length) (i64s (l ++ b)) ∧ w.grownBy w' v.ownBlock := by
  obtain ⟨i0, hi, hz0, hz1, hz2⟩ := info_parts hinfo
  obtain ⟨ao, cap, rfl, hlc, hnil, hr⟩ := hrd
  cases ao with
  | none =>
    obtain ⟨h0, rfl⟩ := hnil rfl
    obtain rfl : b = [] := List.eq_nil_of_length_eq_zero h0
    exact ⟨v, w, run_append_owned_none (P := P) w base t ty e i0 1 ht hi v n _ hown, by simpa using hown, World.grownBy.refl _ _⟩
  | some a =>
    obtain ⟨v', w', h1, h2, h3, _⟩ := run_append_own (P := P) w base t ty e i0 _ 1 8 ht hi hz0 hz1 hz2 rfl (by decide) v n _ hown a b.length cap (i64s b) (by simp [i64s])
      (fun j u hj => by simp only [i64s, List.getElem?_map] at hj; obtain ⟨x, hx, rfl⟩ := Option.map_eq_some_iff.1 hj; exact hr a rfl j x hx) (by intro u hu; simp [i64s] at hu; obtain ⟨x, _, rfl⟩ := hu; rfl) (by unfold maxLen; omega) (by omega) hbase
    exact ⟨v', w', h1, by simpa [i64s] using h2, h3⟩
theorem wpList_append_rdi {P : Program} {w : World} {ops : Array Oper} {rest : List Oper} {o : Oper} {a : Act} {Q : Exit → Act → World → Prop}
    (hg : o.guard = none) (s x : Operand) (t : TypeId) (hop : o.op = Op.call { callee := Callee.builtin Builtin.append, args := #[s, x], argTypes := #[t, t] })
    (e : TypeId) (ht : P.underlying t = some (.slice e)) (hinfo : (P.info? e).map (fun i => (i.zero, i.size, i.bytes)) = some (some (.int .i64 0), 1, 8))
    (base : Nat) (v : Value) (n : Nat) (l : List Int) (hs : a.eval s = v) (hown : w.ownsRow base e 1 v n (i64s l)) (sl : Value) (b : List Int) (hx : a.eval x = sl) (hrd : RdI w sl b)
    (hbytes : n + b.length ≤ 17592186044416) (hbase : base ≤ w.heap.size)
    (hK : ∀ v' w', w'.ownsRow base e 1 v' (n + b.length) (i64s (l ++ b)) → w.grownBy w' v.ownBlock → wpList P ops Q rest (a.put o.dst v') w') : wpList P ops Q (o :: rest) a w := by
  refine wpList_plain hg fun K hK' => ?_
  obtain ⟨v', w', hr, h2, h3⟩ := run_append_rdi (P := P) o.type ht hinfo hown hrd hbytes hbase
  unfold Oper.wp execOp
  simp only [hop, resolve, invoke, builtin, Sem.run_bind, Sem.run_pure, Result.andThen_ok, List.map_toArray, List.map_cons, List.map_nil, hs, hx, hr]
  exact hK' _ _ (hK v' w' h2 h3)

set_option maxHeartbeats 2000000 in
set_option maxRecDepth 20000 in
theorem makes_walk0 (bits a b c : Nat) (first n : Int) (l : List Int) (ao : Option Addr) (cap : Nat) (W : World) (ht : TabT W) (hbits : bits < 256) (hf1 : -9223372036854775808 ≤ first) (hf2 : first ≤ 9223372036854775807)
    (hn1 : -9223372036854775808 ≤ n) (hn2 : n ≤ 9223372036854775807) (hrd : RdI W (.slice ao l.length cap) l) (hl : l.length ≤ 17592186043904) (hlk : ∀ k ∈ l, -9223372036854775808 ≤ k ∧ k ≤ 9223372036854775807)
    (Ha : Hid (allN n = a)) (Hb : Hid (weekN bits first n = b)) (Hc : Hid (daysN n l = c)) (ha : a < 2147483648) (hb : b < 2147483648) (hc : c < 2147483648) :
    Calls Tryd.prog 3 #[.int .u8 bits, .int .i64 first, .int .i64 n, .slice ao l.length cap] W fun e w' => e = .returned (.bool true) ∧ Gd W w' := by
  have Hda : Hid (a % 2147483648 = a) := Nat.mod_eq_of_lt ha
  have Hdb : Hid (b % 2147483648 = b) := Nat.mod_eq_of_lt hb
  have Hdc : Hid (c % 2147483648 = c) := Nat.mod_eq_of_lt hc
  have HR := hide hrd
  have HK := hide hlk
  have HT := hide ht
  clear hrd hlk ht
  go_enter Tryd.func3, Tryd.ntmps3
  go_wp2_with (at_builtin; refine Hid.out ?_)
  refine hide ?_
  refine wpList_append_rdi rfl _ _ 22 rfl 2 Tryd.underlying22 info64 W.heap.size _ 0 [] rfl (World.ownsRow_nil _ _ _ _) _ l rfl HR.out (by omega) (Nat.le_refl _) ?_
  intro v w1 hown hgrow
  rw [Nat.zero_add, List.nil_append] at hown
  have hb1 : Below W.heap.size W w1 := (Below.refl W.heap.size W).grown hgrow (Nat.le_refl _) (fun j hj => by cases hj)
  have h1 : Gd W w1 := (Gd.here HT.out).more hb1
  obtain ⟨vo, vc, rfl, -⟩ := own_shape hown
  have HO := hide (RdI.own hown)
  have HG1 : Hid (Gd w1 w1) := Gd.here h1.tabT
  have HG := hide h1
  clear hown hgrow hb1 h1
  have g1 := HG1.out
  go_wp2_with fail
  refine (g1.all _).mono ?_; rw [Ha.out]; rintro e w2 ⟨rfl, h2⟩
  go_wp2_with fail
  refine (h2.week _ _ _ hbits hf1 hf2 Hb.out).mono ?_; rintro e w3 ⟨rfl, h3⟩
  go_wp2_with fail
  refine (days_any l n _ w3 (HO.out.below h3.below) (by omega) hn1 hn2 HK.out).mono ?_; rw [Hc.out]; rintro e w3' ⟨rfl, rfl⟩
  go_wp2_with fail
  refine (h3.days _ (by omega) Hda.out).mono ?_; rintro e w4 ⟨rfl, h4⟩
  go_wp2_with fail
  refine (rall_any _ _).mono ?_; rintro e w5 ⟨v, g, rfl, -, hr, hbel⟩
  have h5 := h4.more hbel
  obtain rfl := hr.val
  have HR5 : Hid (RMonth w5 (.agg #[.slice (some ⟨g, 0, none⟩) 32 32]) a) := by rw [← Ha.out]; exact ⟨g, hr⟩
  clear hr hbel g1 h2 h3 h4
  go_wp2_with fail
  refine (h5.rbits _ _ HR5.out Hda.out).mono ?_; rintro e w6 ⟨rfl, h6⟩
  go_wp2_with fail
  refine (h6.days _ (by omega) Hdb.out).mono ?_; rintro e w7 ⟨rfl, h7⟩
  go_wp2_with fail
  refine (rweek_any _ _ _ _ hbits hf1 hf2).mono ?_; rintro e w8 ⟨v, g2, rfl, -, hr, hbel⟩
  have h8 := h7.more hbel
  obtain rfl := hr.val
  have HR8 : Hid (RMonth w8 (.agg #[.slice (some ⟨g2, 0, none⟩) 32 32]) b) := by rw [← Hb.out]; exact ⟨g2, hr⟩
  clear hr hbel h5 h6 h7 HR5
  go_wp2_with fail
  refine (h8.rbits _ _ HR8.out Hdb.out).mono ?_; rintro e w9 ⟨rfl, h9⟩
  go_wp2_with fail
  refine (h9.days _ (by omega) Hdc.out).mono ?_; rintro e w10 ⟨rfl, h10⟩
  go_wp2_with fail
  refine (rdays_any l n _ _ (rdi_in HR.out (HG.out.more h10.below).below) (by omega) hn1 hn2 HK.out).mono ?_; rintro e w11 ⟨v, g3, rfl, -, hr, hbel⟩
  have h11 := h10.more hbel
  obtain rfl := hr.val
  have HR11 : Hid (RMonth w11 (.agg #[.slice (some ⟨g3, 0, none⟩) 32 32]) c) := by rw [← Hc.out]; exact ⟨g3, hr⟩
  clear hr hbel h8 h9 h10 HR8
  go_wp2_with fail
  refine (h11.rbits _ _ HR11.out Hdc.out).mono ?_; rintro e w12 ⟨rfl, h12⟩
  go_wp2_with fail
  refine (same_any l _ _ _ (HO.out.below h12.below) (rdi_in HR.out (HG.out.more h12.below).below) (by omega)).mono ?_; rintro e w13 ⟨rfl, hbel⟩
  have h13 := h12.more hbel
  clear hbel
  go_wp2_with fail
  refine h13.known.mono ?_; rintro e w14 ⟨rfl, h14⟩
  go_wp2
  go_ret
  exact ⟨rfl, HG.out.more h14.below⟩
theorem makes_walk (a0 a1 a2 : Int) (l : List Int) {ao : Option Addr} {cap : Nat} {len : Nat} (W : World) (ht : TabT W) (h0 : 0 ≤ a0 ∧ a0 ≤ 255) (h1 : -9223372036854775808 ≤ a1 ∧ a1 ≤ 9223372036854775807) (h2 : -9223372036854775808 ≤ a2 ∧ a2 ≤ 9223372036854775807)
    (hrd : RdI W (.slice ao len cap) l) (hl : l.length ≤ 17592186043904) (hlk : ∀ k ∈ l, -9223372036854775808 ≤ k ∧ k ≤ 9223372036854775807) :
    Calls Tryd.prog 3 #[.int .u8 a0, .int .i64 a1, .int .i64 a2, .slice ao len cap] W fun e w' => e = .returned (.bool true) ∧ Below W.heap.size W w' := by
  obtain ⟨x, rfl⟩ := Int.eq_ofNat_of_zero_le h0.1
  obtain rfl : len = l.length := by obtain ⟨_, _, hv, _⟩ := hrd; simp at hv; exact hv.2.1
  exact (makes_walk0 x _ _ _ a1 a2 l ao cap W ht (by omega) h1.1 h1.2 h2.1 h2.2 hrd hl hlk rfl rfl rfl (allN_lt _) (weekN_lt _ _ _) (daysN_lt _ _)).mono fun _ _ ⟨he, hg⟩ => ⟨he, hg.below⟩
end Go.Proofs.YtjalachjmmojhaaDoor
