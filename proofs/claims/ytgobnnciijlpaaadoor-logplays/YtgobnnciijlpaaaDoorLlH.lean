/- LogPlays: what is called, call by call. -/
import Derived.Test.YtgobnnciijlpaaaDoorJ3
import Derived.Deep.RegionHeld
import Derived.Deep.CutRange
import Derived.Deep.CutBlock
namespace Go.Proofs.YtgobnnciijlpaaaDoor
open Go.ChangeShapes Go.WideShapes Go.ChangeAt Go.RowKit Go.DsMem Go.DsDk Go.DsLg
set_option linter.unusedVariables false

theorem Both.new4 {W w w' w2 : World} {r g : Nat} (hb : Below W.heap.size W w) (hB : W.heap.size ≤ w.heap.size) (hD : DiskAt w' w.heap.size (fun _ => .slice none 0 0) Dk.new) (hb1 : Below w.heap.size w w')
    (hR : RefAt w2 (fun k => w'.heap.size ≤ k ∧ k < w2.heap.size) r g (fun _ => .slice none 0 0) Dk.new) (hb2 : Below w'.heap.size w' w2) : Both W w2 w.heap.size (fun _ => .slice none 0 0) Dk.new (fun k => w'.heap.size ≤ k ∧ k < w2.heap.size) r g (fun _ => .slice none 0 0) Dk.new := by
  have O := Own.new hb hB hD hb1
  refine ⟨O.grew hb2, hR, ⟨by have := hR.sr.1; have := hb1.size; omega, by have := hR.sg.1; have := hb1.size; omega⟩, fun k hk hs => ?_⟩
  have := O.dk.foot_lt hk
  omega
theorem open_few {D : Dk} (hD : D.Ok) : (openB D).2.recs.length ≤ 65536 ∧ (openB D).2.next < 18446744073709551616 := by
  have h0 := (hD 0 (by decide)).2
  have hs := scanB_ok (D.b 0)
  have hl := behB_len (snapB (D.b 1)).1 (scanB (D.b 0)).1 (scanB (D.b 0)).2.1
  have h1 := hs.2.2.1
  have h2 := hs.2.2.2.1
  unfold openB
  split
  · split
    · split
      · split
        · exact ⟨by simp only; omega, Nat.mod_lt _ (by decide)⟩
        · exact ⟨by simp, by simp⟩
      · exact ⟨by simp only; omega, Nat.mod_lt _ (by decide)⟩
    · exact ⟨by simp, by simp⟩
  · exact ⟨by simp, by simp⟩
/-- both are opened -/
theorem Both.opened {W w w1 w2 : World} {p r g l m N : Nat} {v v1 u u2 : Nat → Value} {D : Dk} {S : Nat → Prop} {x rs y ts : Value} (h : Both W w p v D S r g u D) (hM : Moved w p v w1 v1 (openB D).1) (hI : IsOpen w N w1 p v1 (openB D).2 l x rs)
    (hR : ROpen w1 S r g w2 u2 (openB D).1 (openB D).2 m y ts) : Duo W w2 p v1 (openB D).1 l ⟨(openB D).2.next, (openB D).2.recs.length, false⟩ (fun k => S k ∨ w1.heap.size ≤ k ∧ k < m) r g u2 (openB D).1 m ⟨(openB D).2.next, (openB D).2.recs.length, false⟩ := by
  have h1 := h.left hM
  have hl := block_lt hI.log
  have hm := block_lt hR.log
  have hz := h.own.size
  have hrg : ∀ k, foot p v1 k → ¬ (k = r ∨ k = g) := fun k hk e => by
    rcases e with rfl | rfl
    · exact h1.apart _ hk h1.ref.sr
    · exact h1.apart _ hk h1.ref.sg
  have hB : Below W.heap.size w1 w2 := hR.only.toBelow h1.own.size (fun i hi => by rcases hi with rfl | rfl; exact h1.mine.1; exact h1.mine.2)
  have hls : ¬ S l := fun hs => by have := h.ref.lt l hs; have := hI.new; have := hI.le; omega
  refine ⟨⟨⟨h1.own.dk.stays hR.only hrg, h1.own.mine, h1.own.below.trans hB, Nat.le_trans h1.own.size hR.only.size⟩, hR.ref, h1.mine, fun k hk hs => ?_⟩, hI.log.only hR.only (fun e => ?_), hR.log, ?_, hI.lof, fun hs => ?_, ?_, fun hf => ?_, fun hs => ?_, ?_⟩
  · rcases hs with hs | hs
    · exact h1.apart k hk hs
    · have := h1.own.dk.foot_lt hk; omega
  · rcases e with e | e
    · exact hls (by rw [e]; exact h1.ref.sr)
    · exact hls (by rw [e]; exact h1.ref.sg)
  · have := hI.new; have := hI.le; omega
  · rcases hs with hs | hs
    · exact hls hs
    · omega
  · have := hR.new; have := h1.own.size; omega
  · have := h1.own.dk.foot_lt hf; have := hR.new; omega
  · rcases hs with hs | hs
    · have := h1.ref.lt m hs; have := hR.new; omega
    · omega
  · have := hR.new; omega

theorem State.below {W w : World} {p r g k : Nat} {x y : Value} (h : State W w p r g k x y) : Below W.heap.size W w := by
  cases h with
  | none v D S u h => exact h.own.below
  | some v D l L S u m h _ _ => exact h.both.own.below
theorem State.size {W w : World} {p r g k : Nat} {x y : Value} (h : State W w p r g k x y) : W.heap.size ≤ w.heap.size := by
  cases h with
  | none v D S u h => exact h.own.size
  | some v D l L S u m h _ _ => exact h.both.own.size
theorem State.grew {W w w' : World} {p r g k : Nat} {x y : Value} (h : State W w p r g k x y) (hb : Below w.heap.size w w') : State W w' p r g k x y := by
  cases h with
  | none v D S u h => exact .none v D S u (h.grew hb)
  | some v D l L S u m h hn hz => exact .some v D l L S u m (h.grew hb) hn hz
theorem Duo.off {W w : World} {p r g l m n : Nat} {v u : Nat → Value} {D E : Dk} {S : Nat → Prop} {L M : Lg} (h : Duo W w p v D l L S r g u E m M) (hn : w.heap.size ≤ n) : W.heap.size ≤ n ∧ ¬ foot p v n ∧ ¬ S n ∧ n ≠ l ∧ n ≠ m := by
  obtain ⟨h1, h2, h3⟩ := h.both.lt hn
  exact ⟨h1, h2, h3, by have := block_lt h.log; omega, by have := block_lt h.rlog; omega⟩

/-- the two disks of a state, and the state behind calls to both -/
theorem State.both {W w : World} {p r g k : Nat} {x y : Value} (h : State W w p r g k x y) : ∃ v D S u, Both W w p v D S r g u D ∧ ∀ {w1 w2 : World} {v1 u2 : Nat → Value} {D1 : Dk}, Moved w p v w1 v1 D1 → RMoved w1 S r g w2 u2 D1 → State W w2 p r g (k + 1) x y := by
  cases h with
  | none v D S u h => exact ⟨v, D, S, u, h, fun h1 h2 => .none _ _ _ _ ((h.left h1).right h2)⟩
  | some v D l L S u m h hn hz => exact ⟨v, D, S, u, h.both, fun h1 h2 => .some _ _ _ _ _ _ _ ((h.dleft h1).dright h2) hn (by omega)⟩
theorem State.both2 {W w wa : World} {p r g k : Nat} {x y : Value} (h : State W w p r g k x y) (hb : Below w.heap.size w wa) : ∃ v D S u, (∀ n, w.heap.size ≤ n → ¬ foot p v n ∧ ¬ S n) ∧ Both W wa p v D S r g u D ∧ ∀ (w1 w2 : World) (v1 u2 : Nat → Value) (D1 : Dk), Moved wa p v w1 v1 D1 → RMoved w1 S r g w2 u2 D1 → State W w2 p r g (k + 1) x y := by
  cases h with
  | none v D S u h => exact ⟨v, D, S, u, fun n hn => (h.lt hn).2, h.grew hb, fun _ _ _ _ _ h1 h2 => .none _ _ _ _ (((h.grew hb).left h1).right h2)⟩
  | some v D l L S u m h hn hz => exact ⟨v, D, S, u, fun n hn => (h.both.lt hn).2, (h.grew hb).both, fun _ _ _ _ _ h1 h2 => .some _ _ _ _ _ _ _ (((h.grew hb).dleft h1).dright h2) hn (by omega)⟩
theorem lent_only4 {B gl : Nat} {w w' : World} {b : List UInt8} {T : Nat → Prop} (h : LentAt B w gl b) (ho : Only T w w') (hn : ¬ T gl) : LentAt B w' gl b := own_only h ho (fun k hk e => by
  have e2 : gl = k := Option.some.inj hk
  exact hn (by rw [e2]; exact e))
theorem LentAt.lt4 {B gl : Nat} {w : World} {b : List UInt8} (h : LentAt B w gl b) : gl < w.heap.size := by
  obtain ⟨cur, hg, _⟩ := own_row h
  exact block_lt hg
theorem LMoved.keeps {w w' : World} {p l : Nat} {v v' : Nat → Value} {D' : Dk} {L' : Lg} (hm : LMoved w p v l w' v' D' L') {n j : Nat} {x : Value} (hc : w.cell? ⟨n, j, none⟩ = some x) (hn : ¬ foot p v n) (hl : n ≠ l) : w'.cell? ⟨n, j, none⟩ = some x :=
  hm.only.cell hc (fun e => by rcases e with e | e; exact hn e; exact hl e)
theorem RLMoved.keeps {w w' : World} {S : Nat → Prop} {r g m : Nat} {u u' : Nat → Value} {E E' : Dk} {M' : Lg} (hm : RLMoved w S r g m w' u' E' M') (h : RefAt w S r g u E) {n j : Nat} {x : Value} (hc : w.cell? ⟨n, j, none⟩ = some x) (hn : ¬ S n) (hl : n ≠ m) : w'.cell? ⟨n, j, none⟩ = some x :=
  hm.only.cell hc (fun e => by
    rcases e with e | e | e
    · exact hn (by have e2 : n = r := e; rw [e2]; exact h.sr)
    · exact hn (by have e2 : n = g := e; rw [e2]; exact h.sg)
    · exact hl e)
theorem State.next {W w : World} {p r g k : Nat} {x y : Value} (h : State W w p r g k x y) : State W w p r g (k + 1) x y := by
  cases h with
  | none v D S u h => exact .none v D S u h
  | some v D l L S u m h hn hz => exact .some v D l L S u m h hn (by omega)
theorem tmod20 (n : Int) : n.tmod 20 ≤ 9223372036854775807 := by
  have := Int.tmod_lt_of_pos n (show (0 : Int) < 20 by decide)
  omega

/-- rows of bytes of one's own, whatever they hold -/
def Rows (B E : Nat) (w : World) (v : Value) (n : Nat) : Prop :=
  ∃ ao cap, v = .slice ao n cap ∧ ∀ i, i < n → ∃ a xo xl xc, ao = some a ∧ (∃ cs fr, w.heap[a.block]? = some (.cells cs 28 fr)) ∧ w.cell? (a.add i) = some (.slice xo xl xc) ∧ (∃ xs, w.ownsRow B 5 1 (.slice xo xl xc) xl xs) ∧ ∀ k, (Value.slice xo xl xc).ownBlock = some k → k < E
theorem Rows.of {B E : Nat} {w : World} {v : Value} {recs : List (List UInt8)} (h : RdL B E w v recs) : Rows B E w v recs.length := by
  obtain ⟨ao, cap, hv, he⟩ := h
  refine ⟨ao, cap, hv, fun i hi => ?_⟩
  obtain ⟨a, xo, xc, h1, _, _, ht, h2, h3, h4⟩ := he i recs[i] (List.getElem?_eq_getElem hi)
  exact ⟨a, xo, _, xc, h1, ht, h2, ⟨_, h3⟩, h4⟩
theorem Rows.at {B E : Nat} {w : World} {ao : Option Addr} {n c i : Nat} (h : Rows B E w (.slice ao n c) n) (hi : i < n) : ∃ a xo xl xc, ao = some a ∧ w.cell? (a.add i) = some (.slice xo xl xc) ∧ ∃ xs, w.ownsRow B 5 1 (.slice xo xl xc) xl xs ∧ ∀ k, (Value.slice xo xl xc).ownBlock = some k → k < E := by
  obtain ⟨ao', cap, hv, he⟩ := h
  simp only [Value.slice.injEq] at hv
  obtain ⟨rfl, _, _⟩ := hv
  obtain ⟨a, xo, xl, xc, h1, _, h2, ⟨xs, h3⟩, h4⟩ := he i hi
  exact ⟨a, xo, xl, xc, h1, h2, xs, h3, h4⟩
theorem Rows.spoiled {B E : Nat} {w w' : World} {v x : Value} {n m : Nat} {xs : List Value} (h : Rows B E w v n) (hx : w.ownsRow B 5 1 x m xs) (ho : Only (fun k => x.ownBlock = some k) w w')
    (hs : ∀ (v2 : Value) (n2 : Nat) (ys : List Value), w.ownsRow B 5 1 v2 n2 ys → ∃ zs, w'.ownsRow B 5 1 v2 n2 zs) : Rows B E w' v n := by
  obtain ⟨ao, cap, hv, he⟩ := h
  refine ⟨ao, cap, hv, fun i hi => ?_⟩
  obtain ⟨a, xo, xl, xc, h1, ⟨cs, fr, ht⟩, h2, ⟨ys, h3⟩, h4⟩ := he i hi
  have hne : ¬ x.ownBlock = some a.block := fun e => by
    rcases hx.2 with ⟨rfl, _⟩ | ⟨g, c, cur, rfl, _, hg, _⟩
    · simp [Value.ownBlock] at e
    · have e2 : g = a.block := Option.some.inj e
      rw [← e2, hg] at ht
      simp at ht
  refine ⟨a, xo, xl, xc, h1, ⟨cs, fr, by rw [ho.block _ (block_lt ht) hne]; exact ht⟩, ho.cell h2 (by rw [add_block]; exact hne), hs _ _ _ h3, h4⟩
set_option maxHeartbeats 1000000 in
/-- dayshiftref01.Spoil: what lay in rows lies in rows -/
theorem spoil_shape (B n : Nat) (v : Value) (xs : List Value) (w : World) (h : w.ownsRow B 5 1 v n xs) :
    Calls Tryd.prog 18 #[v] w fun e w' => e = .returned (.tuple #[]) ∧ Only (fun k => v.ownBlock = some k) w w' ∧ ∀ (v2 : Value) (n2 : Nat) (ys : List Value), w.ownsRow B 5 1 v2 n2 ys → ∃ zs, w'.ownsRow B 5 1 v2 n2 zs := by
  rcases h.2 with ⟨rfl, rfl⟩ | ⟨g, cap, cur, rfl, hb, hg, h1, h2, h3, h4⟩
  · go_enter Tryd.func18, Tryd.ntmps18
    go_wp2
    go_loop [2] (fun i => i = .int .i64 0) (fun _ => 0)
    case atStart => rfl
    case round =>
      subst hrel
      go_wp2
      go_end0
      exact ⟨rfl, Only.refl _ _, fun _ _ ys hy => ⟨ys, hy⟩⟩
  · have HG := hide hg
    clear hg h4 h
    rw [Nat.mul_one] at h3
    have hcm : n ≤ 9223372036854775807 := by unfold maxLen at h2; omega
    go_enter Tryd.func18, Tryd.ntmps18
    go_wp2
    go_loopw [2] (fun i wr => ∃ k : Nat, k ≤ n ∧ i = .int .i64 k ∧ Only (· = g) w wr ∧ ∃ cs : Array Value, wr.heap[g]? = some (.cells cs 5 (0, 0)) ∧ cs.size = cur.size) (fun i _ => n - (intOf i).toNat)
    case atStart => exact ⟨0, Nat.zero_le _, rfl, Only.refl _ _, cur, HG.out, rfl⟩
    case round =>
      obtain ⟨k, hk, rfl, ho, cs, hcs, hn⟩ := hrel
      by_cases hlt : k < n
      · have hc := cell_of (k := k) hcs
        have hf := frozen_of (k := k) hcs
        rw [Array.getElem?_eq_getElem (by omega)] at hc
        have HO := hide ho
        have HC := hide hcs
        have HNN := hide hn
        clear ho hcs
        go_wp2
        refine ⟨⟨k + 1, by omega, by go_num, HO.out.trans (Only.set _ _ _ _) (fun _ _ h => h), _, hset_same HC.out _, by simpa using HNN.out⟩, by simp [intOf]; omega⟩
      · have HO := hide ho
        have HC := hide hcs
        have HNN := hide hn
        clear ho hcs hn
        go_wp2
        go_end0
        refine ⟨rfl, HO.out.mono fun i _ h => by rw [h]; rfl, fun v2 n2 ys hy => ?_⟩
        have hyl := hy.1
        rcases hy.2 with ⟨rfl, h0⟩ | ⟨g2, cap2, cur2, rfl, hb2, hg2, q1, q2, q3, q4⟩
        · exact ⟨ys, hyl, .inl ⟨rfl, h0⟩⟩
        · by_cases e : g2 = g
          · subst e
            have e2 : cur2 = cur := by have := hg2.symm.trans HG.out; simpa using this
            subst e2
            refine ⟨cs.toList.take (n2 * 1), ?_, .inr ⟨g2, cap2, cs, rfl, hb2, HC.out, q1, q2, by rw [HNN.out]; exact q3, rfl⟩⟩
            have := HNN.out
            simp; omega
          · exact ⟨ys, own_only hy HO.out (fun j hj ej => e (by have : g2 = j := Option.some.inj hj; omega))⟩

/-- the first block of that number in a function's code -/
def findBlock (n : Nat) : Code → Option Code
  | .block m c => if m = n then some (.block m c) else findBlock n c
  | .loop c => findBlock n c
  | .seq a b => match findBlock n a with
    | some c => some c
    | none => findBlock n b
  | .scope c => findBlock n c
  | .cond _ a b => match findBlock n a with
    | some c => some c
    | none => findBlock n b
  | _ => none
/-- the switch of LogPlays -/
noncomputable def plSwitch : Code := ((Tryd.f3.body.bind (findBlock 2)).getD .skip)

set_option maxHeartbeats 8000000 in
set_option maxRecDepth 100000 in
theorem lp_x (acts : List A4) (cx ga o k n0 r g : Nat) (bo ko : Option Addr) (bc kc : Nat) (A : A4) (w wr wa : World) (lp mp : Value) (ht : Tab w) (hin : Act4In w ga (o + k * 4) A bo bc ko kc) (hn0 : n0 = wr.heap.size)
    (hX : wa.heap[n0]? = some (.cells #[.int .i64 A.kind, .slice bo A.b.length bc, .int .i64 A.n, .slice ko A.keep.length kc] 38 (0, 0))) (hBA : Below wr.heap.size wr wa) (hst : State w wr w.heap.size r g k lp mp) (hkd : A.kind = A.kind) (hx : A.kind ≠ 0 ∧ A.kind ≠ 1 ∧ A.kind ≠ 2 ∧ A.kind ≠ 3 ∧ A.kind ≠ 4 ∧ A.kind ≠ 5 ∧ A.kind ≠ 9 ∧ A.kind ≠ 6 ∧ A.kind ≠ 7 ∧ A.kind ≠ 8)
    (c1 c2 c6 c7 c8 c10 c11 c12 c15 c16 c17 c18 c19 c20 c21 c22 c23 c24 c25 c26 c27 c28 c29 c30 c31 c32 c33 c34 c35 c36 c37 c38 c39 c40 c41 c42 c43 c44 c45 c46 c47 c48 c49 c50 c51 c52 c53 c54 c55 c56 c57 c58 c59 c60 c61 c62 c64 c65 c66 c67 c68 c69 c70 c71 c72 c73 c74 c75 c76 c77 c78 c79 c80 c81 c82 c83 c84 c85 c86 c87 c88 c89 c90 c91 c92 c93 c94 c95 c96 c97 c98 c99 c100 c101 c102 c103 c104 c105 c106 c107 c108 c109 c110 c111 c112 c113 c114 c115 c116 c117 c118 c119 c120 c121 c122 c123 c124 c125 c126 c127 c128 c129 c130 c131 c132 c133 c134 c135 c136 c137 c138 c139 c140 c141 c142 c143 c144 c145 c146 c147 c148 c149 c150 c151 c152 c153 c154 c155 c156 c157 c158 c159 c160 c161 c162 c163 c164 c165 c166 c167 c168 c169 c170 c171 c172 c173 c174 c175 c176 c177 c178 c179 c180 c181 c182 c183 c184 c185 c186 c187 c188 c189 c190 c191 c192 c193 c194 c195 c196 c197 c198 c199 c200 c201 c202 c203 c204 c205 c206 c207 c208 c209 c210 c211 c212 c213 c214 c215 c216 c217 c218 c219 c220 c221 c222 c223 : Value) (K1 K3 K4 K5 : Act → World → Prop) (P : Ending → World → Prop) (hk30 : k ≤ 30) (hK : ∀ (x5 x9 x15 x16 x17 x18 x19 x20 x21 x22 x23 x24 x48 x49 x50 x51 x52 x53 x54 x55 x56 x57 x58 x59 x60 x61 x62 x63 x64 x65 x66 x67 x68 x69 x70 x71 x72 x73 x74 x75 x76 x77 x78 x79 x80 x81 x82 x83 x84 x85 x86 x87 x88 x89 x90 x91 x92 x93 x94 x95 x96 x97 x98 x99 x100 x101 x102 x103 x104 x105 x106 x107 x108 x109 x110 x111 x112 x113 x114 x115 x116 x117 x118 x119 x120 x121 x122 x123 x124 x125 x126 x127 x128 x129 x130 x131 x132 x133 x134 x135 x136 x137 x138 x139 x140 x141 x142 x143 x144 x145 x146 x147 x148 x149 x150 x151 x152 x153 x154 x155 x156 x157 x158 x159 x160 x161 x162 x163 x164 x165 x166 x167 x168 x169 x170 x171 x172 x173 x174 x175 x176 x177 x178 x179 x180 x181 x182 x183 x184 x185 x186 x187 x188 x189 x190 x191 x192 x193 x194 x195 x196 x197 x198 x199 x200 x201 x202 x203 x204 x205 x206 x207 x208 x209 x210 x211 x212 x213 x214 x215 x216 x217 x218 x219 x220 x221 x222 : Value) (w' : World), State w w' w.heap.size r g (k + 1) x5 x9 → K1 ⟨#[.slice (some ⟨ga, o, none⟩) acts.length cx, c1, c2, .pointer (some ⟨w.heap.size, 0, none⟩), .pointer (some ⟨r, 0, none⟩), x5, c6, c7, c8, x9, c10, c11, c12, .int .i64 (k : Int), .pointer (some ⟨n0, 0, none⟩), x15, x16, x17, x18, x19, x20, x21, x22, x23, x24, c25, c26, c27, c28, c29, c30, c31, c32, c33, c34, c35, c36, c37, c38, c39, c40, c41, c42, c43, c44, c45, c46, c47, x48, x49, x50, x51, x52, x53, x54, x55, x56, x57, x58, x59, x60, x61, x62, x63, x64, x65, x66, x67, x68, x69, x70, x71, x72, x73, x74, x75, x76, x77, x78, x79, x80, x81, x82, x83, x84, x85, x86, x87, x88, x89, x90, x91, x92, x93, x94, x95, x96, x97, x98, x99, x100, x101, x102, x103, x104, x105, x106, x107, x108, x109, x110, x111, x112, x113, x114, x115, x116, x117, x118, x119, x120, x121, x122, x123, x124, x125, x126, x127, x128, x129, x130, x131, x132, x133, x134, x135, x136, x137, x138, x139, x140, x141, x142, x143, x144, x145, x146, x147, x148, x149, x150, x151, x152, x153, x154, x155, x156, x157, x158, x159, x160, x161, x162, x163, x164, x165, x166, x167, x168, x169, x170, x171, x172, x173, x174, x175, x176, x177, x178, x179, x180, x181, x182, x183, x184, x185, x186, x187, x188, x189, x190, x191, x192, x193, x194, x195, x196, x197, x198, x199, x200, x201, x202, x203, x204, x205, x206, x207, x208, x209, x210, x211, x212, x213, x214, x215, x216, x217, x218, x219, x220, x221, x222, c223], []⟩ w') :
    Code.wp Tryd.prog plSwitch (Exit.then K1 (Exit.inBlock 1 (Exit.then K3 (Exit.then K4 (Exit.inBlock 0 (Exit.then K5 (bodyPost Tryd.prog Tryd.f3 P))))))) ⟨#[.slice (some ⟨ga, o, none⟩) acts.length cx, c1, c2, .pointer (some ⟨w.heap.size, 0, none⟩), .pointer (some ⟨r, 0, none⟩), lp, c6, c7, c8, mp, c10, c11, c12, .int .i64 (k : Int), .pointer (some ⟨n0, 0, none⟩), c15, c16, c17, c18, c19, c20, c21, c22, c23, c24, c25, c26, c27, c28, c29, c30, c31, c32, c33, c34, c35, c36, c37, c38, c39, c40, c41, c42, c43, c44, c45, c46, c47, c48, c49, c50, c51, c52, c53, c54, c55, c56, c57, c58, c59, c60, c61, c62, .int .i64 A.kind, c64, c65, c66, c67, c68, c69, c70, c71, c72, c73, c74, c75, c76, c77, c78, c79, c80, c81, c82, c83, c84, c85, c86, c87, c88, c89, c90, c91, c92, c93, c94, c95, c96, c97, c98, c99, c100, c101, c102, c103, c104, c105, c106, c107, c108, c109, c110, c111, c112, c113, c114, c115, c116, c117, c118, c119, c120, c121, c122, c123, c124, c125, c126, c127, c128, c129, c130, c131, c132, c133, c134, c135, c136, c137, c138, c139, c140, c141, c142, c143, c144, c145, c146, c147, c148, c149, c150, c151, c152, c153, c154, c155, c156, c157, c158, c159, c160, c161, c162, c163, c164, c165, c166, c167, c168, c169, c170, c171, c172, c173, c174, c175, c176, c177, c178, c179, c180, c181, c182, c183, c184, c185, c186, c187, c188, c189, c190, c191, c192, c193, c194, c195, c196, c197, c198, c199, c200, c201, c202, c203, c204, c205, c206, c207, c208, c209, c210, c211, c212, c213, c214, c215, c216, c217, c218, c219, c220, c221, c222, c223], []⟩ wa := by
  have HT := hide ht
  have HIN := hide hin
  have HN0 := hide hn0
  have HX := hide hX
  have HBA := hide hBA
  have HST := hide hst
  have HSA := hide (hst.grew hBA)
  have HK := hide hK
  have hk1 := cell_of (k := 1) HX.out
  have hk2 := cell_of (k := 2) HX.out
  have hk3 := cell_of (k := 3) HX.out
  have hk0 := cell_of (k := 0) HX.out
  simp only [List.getElem?_toArray, List.getElem?_cons_zero, List.getElem?_cons_succ] at hk0 hk1 hk2 hk3
  rw [hkd] at hk0
  have hna := block_lt HX.out
  clear ht hin hn0 hX hBA hst hK hkd
  conv => arg 2; whnf
  obtain ⟨n0', n1, n2, n3, n4, n5, n9, n6, n7, n8⟩ := hx
  go_wp2
  exact HK.out _ _ _ _ _ _ _ _ _ _ _ _ _ _ _ _ _ _ _ _ _ _ _ _ _ _ _ _ _ _ _ _ _ _ _ _ _ _ _ _ _ _ _ _ _ _ _ _ _ _ _ _ _ _ _ _ _ _ _ _ _ _ _ _ _ _ _ _ _ _ _ _ _ _ _ _ _ _ _ _ _ _ _ _ _ _ _ _ _ _ _ _ _ _ _ _ _ _ _ _ _ _ _ _ _ _ _ _ _ _ _ _ _ _ _ _ _ _ _ _ _ _ _ _ _ _ _ _ _ _ _ _ _ _ _ _ _ _ _ _ _ _ _ _ _ _ _ _ _ _ _ _ _ _ _ _ _ _ _ _ _ _ _ _ _ _ _ _ _ _ _ _ _ _ _ _ _ _ _ _ _ _ _ _ _ _ _ _ (HSA.out.next)

set_option maxHeartbeats 8000000 in
set_option maxRecDepth 100000 in
theorem lp_5 (acts : List A4) (cx ga o k n0 r g : Nat) (bo ko : Option Addr) (bc kc : Nat) (A : A4) (w wr wa : World) (lp mp : Value) (ht : Tab w) (hin : Act4In w ga (o + k * 4) A bo bc ko kc) (hn0 : n0 = wr.heap.size)
    (hX : wa.heap[n0]? = some (.cells #[.int .i64 A.kind, .slice bo A.b.length bc, .int .i64 A.n, .slice ko A.keep.length kc] 38 (0, 0))) (hBA : Below wr.heap.size wr wa) (hst : State w wr w.heap.size r g k lp mp) (hkd : A.kind = 5)
    (c1 c2 c6 c7 c8 c10 c11 c12 c15 c16 c17 c18 c19 c20 c21 c22 c23 c24 c25 c26 c27 c28 c29 c30 c31 c32 c33 c34 c35 c36 c37 c38 c39 c40 c41 c42 c43 c44 c45 c46 c47 c48 c49 c50 c51 c52 c53 c54 c55 c56 c57 c58 c59 c60 c61 c62 c64 c65 c66 c67 c68 c69 c70 c71 c72 c73 c74 c75 c76 c77 c78 c79 c80 c81 c82 c83 c84 c85 c86 c87 c88 c89 c90 c91 c92 c93 c94 c95 c96 c97 c98 c99 c100 c101 c102 c103 c104 c105 c106 c107 c108 c109 c110 c111 c112 c113 c114 c115 c116 c117 c118 c119 c120 c121 c122 c123 c124 c125 c126 c127 c128 c129 c130 c131 c132 c133 c134 c135 c136 c137 c138 c139 c140 c141 c142 c143 c144 c145 c146 c147 c148 c149 c150 c151 c152 c153 c154 c155 c156 c157 c158 c159 c160 c161 c162 c163 c164 c165 c166 c167 c168 c169 c170 c171 c172 c173 c174 c175 c176 c177 c178 c179 c180 c181 c182 c183 c184 c185 c186 c187 c188 c189 c190 c191 c192 c193 c194 c195 c196 c197 c198 c199 c200 c201 c202 c203 c204 c205 c206 c207 c208 c209 c210 c211 c212 c213 c214 c215 c216 c217 c218 c219 c220 c221 c222 c223 : Value) (K1 K3 K4 K5 : Act → World → Prop) (P : Ending → World → Prop) (hk30 : k ≤ 30) (hK : ∀ (x5 x9 x15 x16 x17 x18 x19 x20 x21 x22 x23 x24 x48 x49 x50 x51 x52 x53 x54 x55 x56 x57 x58 x59 x60 x61 x62 x63 x64 x65 x66 x67 x68 x69 x70 x71 x72 x73 x74 x75 x76 x77 x78 x79 x80 x81 x82 x83 x84 x85 x86 x87 x88 x89 x90 x91 x92 x93 x94 x95 x96 x97 x98 x99 x100 x101 x102 x103 x104 x105 x106 x107 x108 x109 x110 x111 x112 x113 x114 x115 x116 x117 x118 x119 x120 x121 x122 x123 x124 x125 x126 x127 x128 x129 x130 x131 x132 x133 x134 x135 x136 x137 x138 x139 x140 x141 x142 x143 x144 x145 x146 x147 x148 x149 x150 x151 x152 x153 x154 x155 x156 x157 x158 x159 x160 x161 x162 x163 x164 x165 x166 x167 x168 x169 x170 x171 x172 x173 x174 x175 x176 x177 x178 x179 x180 x181 x182 x183 x184 x185 x186 x187 x188 x189 x190 x191 x192 x193 x194 x195 x196 x197 x198 x199 x200 x201 x202 x203 x204 x205 x206 x207 x208 x209 x210 x211 x212 x213 x214 x215 x216 x217 x218 x219 x220 x221 x222 : Value) (w' : World), State w w' w.heap.size r g (k + 1) x5 x9 → K1 ⟨#[.slice (some ⟨ga, o, none⟩) acts.length cx, c1, c2, .pointer (some ⟨w.heap.size, 0, none⟩), .pointer (some ⟨r, 0, none⟩), x5, c6, c7, c8, x9, c10, c11, c12, .int .i64 (k : Int), .pointer (some ⟨n0, 0, none⟩), x15, x16, x17, x18, x19, x20, x21, x22, x23, x24, c25, c26, c27, c28, c29, c30, c31, c32, c33, c34, c35, c36, c37, c38, c39, c40, c41, c42, c43, c44, c45, c46, c47, x48, x49, x50, x51, x52, x53, x54, x55, x56, x57, x58, x59, x60, x61, x62, x63, x64, x65, x66, x67, x68, x69, x70, x71, x72, x73, x74, x75, x76, x77, x78, x79, x80, x81, x82, x83, x84, x85, x86, x87, x88, x89, x90, x91, x92, x93, x94, x95, x96, x97, x98, x99, x100, x101, x102, x103, x104, x105, x106, x107, x108, x109, x110, x111, x112, x113, x114, x115, x116, x117, x118, x119, x120, x121, x122, x123, x124, x125, x126, x127, x128, x129, x130, x131, x132, x133, x134, x135, x136, x137, x138, x139, x140, x141, x142, x143, x144, x145, x146, x147, x148, x149, x150, x151, x152, x153, x154, x155, x156, x157, x158, x159, x160, x161, x162, x163, x164, x165, x166, x167, x168, x169, x170, x171, x172, x173, x174, x175, x176, x177, x178, x179, x180, x181, x182, x183, x184, x185, x186, x187, x188, x189, x190, x191, x192, x193, x194, x195, x196, x197, x198, x199, x200, x201, x202, x203, x204, x205, x206, x207, x208, x209, x210, x211, x212, x213, x214, x215, x216, x217, x218, x219, x220, x221, x222, c223], []⟩ w') :
    Code.wp Tryd.prog plSwitch (Exit.then K1 (Exit.inBlock 1 (Exit.then K3 (Exit.then K4 (Exit.inBlock 0 (Exit.then K5 (bodyPost Tryd.prog Tryd.f3 P))))))) ⟨#[.slice (some ⟨ga, o, none⟩) acts.length cx, c1, c2, .pointer (some ⟨w.heap.size, 0, none⟩), .pointer (some ⟨r, 0, none⟩), lp, c6, c7, c8, mp, c10, c11, c12, .int .i64 (k : Int), .pointer (some ⟨n0, 0, none⟩), c15, c16, c17, c18, c19, c20, c21, c22, c23, c24, c25, c26, c27, c28, c29, c30, c31, c32, c33, c34, c35, c36, c37, c38, c39, c40, c41, c42, c43, c44, c45, c46, c47, c48, c49, c50, c51, c52, c53, c54, c55, c56, c57, c58, c59, c60, c61, c62, .int .i64 5, c64, c65, c66, c67, c68, c69, c70, c71, c72, c73, c74, c75, c76, c77, c78, c79, c80, c81, c82, c83, c84, c85, c86, c87, c88, c89, c90, c91, c92, c93, c94, c95, c96, c97, c98, c99, c100, c101, c102, c103, c104, c105, c106, c107, c108, c109, c110, c111, c112, c113, c114, c115, c116, c117, c118, c119, c120, c121, c122, c123, c124, c125, c126, c127, c128, c129, c130, c131, c132, c133, c134, c135, c136, c137, c138, c139, c140, c141, c142, c143, c144, c145, c146, c147, c148, c149, c150, c151, c152, c153, c154, c155, c156, c157, c158, c159, c160, c161, c162, c163, c164, c165, c166, c167, c168, c169, c170, c171, c172, c173, c174, c175, c176, c177, c178, c179, c180, c181, c182, c183, c184, c185, c186, c187, c188, c189, c190, c191, c192, c193, c194, c195, c196, c197, c198, c199, c200, c201, c202, c203, c204, c205, c206, c207, c208, c209, c210, c211, c212, c213, c214, c215, c216, c217, c218, c219, c220, c221, c222, c223], []⟩ wa := by
  have HT := hide ht
  have HIN := hide hin
  have HN0 := hide hn0
  have HX := hide hX
  have HBA := hide hBA
  have HST := hide hst
  have HSA := hide (hst.grew hBA)
  have HK := hide hK
  have hk1 := cell_of (k := 1) HX.out
  have hk2 := cell_of (k := 2) HX.out
  have hk3 := cell_of (k := 3) HX.out
  have hk0 := cell_of (k := 0) HX.out
  simp only [List.getElem?_toArray, List.getElem?_cons_zero, List.getElem?_cons_succ] at hk0 hk1 hk2 hk3
  rw [hkd] at hk0
  have hna := block_lt HX.out
  clear ht hin hn0 hX hBA hst hK hkd
  conv => arg 2; whnf
  obtain ⟨v, D, S, u, hoff, hB, hS⟩ := HST.out.both2 HBA.out
  have HOF := hide (hoff n0 (by rw [HN0.out]; exact Nat.le_refl _))
  have HB := hide hB
  have HS := hide hS
  clear hoff hB hS
  go_wp2_with fail
  refine (fail_any _ _ _ (A.n.tmod 20) _ HB.out.own.dk (tmod20 _)).mono ?_
  rintro e w5 ⟨rfl, hm5⟩
  have hd2 : w5.cell? ⟨n0, 2, none⟩ = some (.int .i64 A.n) := hm5.keeps hk2 HOF.out.1
  have HM5 := hide hm5
  clear hm5 hk0 hk1 hk2 hk3
  go_wp2_with fail
  refine (rfail_any _ _ _ _ _ (A.n.tmod 20) _ (HB.out.left HM5.out).ref (tmod20 _)).mono ?_
  rintro e w6 ⟨rfl, hm6⟩
  have HF := hide (HS.out _ _ _ _ _ HM5.out hm6)
  clear hm6 hd2
  go_wp2
  exact HK.out _ _ _ _ _ _ _ _ _ _ _ _ _ _ _ _ _ _ _ _ _ _ _ _ _ _ _ _ _ _ _ _ _ _ _ _ _ _ _ _ _ _ _ _ _ _ _ _ _ _ _ _ _ _ _ _ _ _ _ _ _ _ _ _ _ _ _ _ _ _ _ _ _ _ _ _ _ _ _ _ _ _ _ _ _ _ _ _ _ _ _ _ _ _ _ _ _ _ _ _ _ _ _ _ _ _ _ _ _ _ _ _ _ _ _ _ _ _ _ _ _ _ _ _ _ _ _ _ _ _ _ _ _ _ _ _ _ _ _ _ _ _ _ _ _ _ _ _ _ _ _ _ _ _ _ _ _ _ _ _ _ _ _ _ _ _ _ _ _ _ _ _ _ _ _ _ _ _ _ _ _ _ _ _ _ _ _ _ (HF.out)

set_option maxHeartbeats 8000000 in
set_option maxRecDepth 100000 in
theorem lp_9 (acts : List A4) (cx ga o k n0 r g : Nat) (bo ko : Option Addr) (bc kc : Nat) (A : A4) (w wr wa : World) (lp mp : Value) (ht : Tab w) (hin : Act4In w ga (o + k * 4) A bo bc ko kc) (hn0 : n0 = wr.heap.size)
    (hX : wa.heap[n0]? = some (.cells #[.int .i64 A.kind, .slice bo A.b.length bc, .int .i64 A.n, .slice ko A.keep.length kc] 38 (0, 0))) (hBA : Below wr.heap.size wr wa) (hst : State w wr w.heap.size r g k lp mp) (hkd : A.kind = 9)
    (c1 c2 c6 c7 c8 c10 c11 c12 c15 c16 c17 c18 c19 c20 c21 c22 c23 c24 c25 c26 c27 c28 c29 c30 c31 c32 c33 c34 c35 c36 c37 c38 c39 c40 c41 c42 c43 c44 c45 c46 c47 c48 c49 c50 c51 c52 c53 c54 c55 c56 c57 c58 c59 c60 c61 c62 c64 c65 c66 c67 c68 c69 c70 c71 c72 c73 c74 c75 c76 c77 c78 c79 c80 c81 c82 c83 c84 c85 c86 c87 c88 c89 c90 c91 c92 c93 c94 c95 c96 c97 c98 c99 c100 c101 c102 c103 c104 c105 c106 c107 c108 c109 c110 c111 c112 c113 c114 c115 c116 c117 c118 c119 c120 c121 c122 c123 c124 c125 c126 c127 c128 c129 c130 c131 c132 c133 c134 c135 c136 c137 c138 c139 c140 c141 c142 c143 c144 c145 c146 c147 c148 c149 c150 c151 c152 c153 c154 c155 c156 c157 c158 c159 c160 c161 c162 c163 c164 c165 c166 c167 c168 c169 c170 c171 c172 c173 c174 c175 c176 c177 c178 c179 c180 c181 c182 c183 c184 c185 c186 c187 c188 c189 c190 c191 c192 c193 c194 c195 c196 c197 c198 c199 c200 c201 c202 c203 c204 c205 c206 c207 c208 c209 c210 c211 c212 c213 c214 c215 c216 c217 c218 c219 c220 c221 c222 c223 : Value) (K1 K3 K4 K5 : Act → World → Prop) (P : Ending → World → Prop) (hk30 : k ≤ 30) (hK : ∀ (x5 x9 x15 x16 x17 x18 x19 x20 x21 x22 x23 x24 x48 x49 x50 x51 x52 x53 x54 x55 x56 x57 x58 x59 x60 x61 x62 x63 x64 x65 x66 x67 x68 x69 x70 x71 x72 x73 x74 x75 x76 x77 x78 x79 x80 x81 x82 x83 x84 x85 x86 x87 x88 x89 x90 x91 x92 x93 x94 x95 x96 x97 x98 x99 x100 x101 x102 x103 x104 x105 x106 x107 x108 x109 x110 x111 x112 x113 x114 x115 x116 x117 x118 x119 x120 x121 x122 x123 x124 x125 x126 x127 x128 x129 x130 x131 x132 x133 x134 x135 x136 x137 x138 x139 x140 x141 x142 x143 x144 x145 x146 x147 x148 x149 x150 x151 x152 x153 x154 x155 x156 x157 x158 x159 x160 x161 x162 x163 x164 x165 x166 x167 x168 x169 x170 x171 x172 x173 x174 x175 x176 x177 x178 x179 x180 x181 x182 x183 x184 x185 x186 x187 x188 x189 x190 x191 x192 x193 x194 x195 x196 x197 x198 x199 x200 x201 x202 x203 x204 x205 x206 x207 x208 x209 x210 x211 x212 x213 x214 x215 x216 x217 x218 x219 x220 x221 x222 : Value) (w' : World), State w w' w.heap.size r g (k + 1) x5 x9 → K1 ⟨#[.slice (some ⟨ga, o, none⟩) acts.length cx, c1, c2, .pointer (some ⟨w.heap.size, 0, none⟩), .pointer (some ⟨r, 0, none⟩), x5, c6, c7, c8, x9, c10, c11, c12, .int .i64 (k : Int), .pointer (some ⟨n0, 0, none⟩), x15, x16, x17, x18, x19, x20, x21, x22, x23, x24, c25, c26, c27, c28, c29, c30, c31, c32, c33, c34, c35, c36, c37, c38, c39, c40, c41, c42, c43, c44, c45, c46, c47, x48, x49, x50, x51, x52, x53, x54, x55, x56, x57, x58, x59, x60, x61, x62, x63, x64, x65, x66, x67, x68, x69, x70, x71, x72, x73, x74, x75, x76, x77, x78, x79, x80, x81, x82, x83, x84, x85, x86, x87, x88, x89, x90, x91, x92, x93, x94, x95, x96, x97, x98, x99, x100, x101, x102, x103, x104, x105, x106, x107, x108, x109, x110, x111, x112, x113, x114, x115, x116, x117, x118, x119, x120, x121, x122, x123, x124, x125, x126, x127, x128, x129, x130, x131, x132, x133, x134, x135, x136, x137, x138, x139, x140, x141, x142, x143, x144, x145, x146, x147, x148, x149, x150, x151, x152, x153, x154, x155, x156, x157, x158, x159, x160, x161, x162, x163, x164, x165, x166, x167, x168, x169, x170, x171, x172, x173, x174, x175, x176, x177, x178, x179, x180, x181, x182, x183, x184, x185, x186, x187, x188, x189, x190, x191, x192, x193, x194, x195, x196, x197, x198, x199, x200, x201, x202, x203, x204, x205, x206, x207, x208, x209, x210, x211, x212, x213, x214, x215, x216, x217, x218, x219, x220, x221, x222, c223], []⟩ w') :
    Code.wp Tryd.prog plSwitch (Exit.then K1 (Exit.inBlock 1 (Exit.then K3 (Exit.then K4 (Exit.inBlock 0 (Exit.then K5 (bodyPost Tryd.prog Tryd.f3 P))))))) ⟨#[.slice (some ⟨ga, o, none⟩) acts.length cx, c1, c2, .pointer (some ⟨w.heap.size, 0, none⟩), .pointer (some ⟨r, 0, none⟩), lp, c6, c7, c8, mp, c10, c11, c12, .int .i64 (k : Int), .pointer (some ⟨n0, 0, none⟩), c15, c16, c17, c18, c19, c20, c21, c22, c23, c24, c25, c26, c27, c28, c29, c30, c31, c32, c33, c34, c35, c36, c37, c38, c39, c40, c41, c42, c43, c44, c45, c46, c47, c48, c49, c50, c51, c52, c53, c54, c55, c56, c57, c58, c59, c60, c61, c62, .int .i64 9, c64, c65, c66, c67, c68, c69, c70, c71, c72, c73, c74, c75, c76, c77, c78, c79, c80, c81, c82, c83, c84, c85, c86, c87, c88, c89, c90, c91, c92, c93, c94, c95, c96, c97, c98, c99, c100, c101, c102, c103, c104, c105, c106, c107, c108, c109, c110, c111, c112, c113, c114, c115, c116, c117, c118, c119, c120, c121, c122, c123, c124, c125, c126, c127, c128, c129, c130, c131, c132, c133, c134, c135, c136, c137, c138, c139, c140, c141, c142, c143, c144, c145, c146, c147, c148, c149, c150, c151, c152, c153, c154, c155, c156, c157, c158, c159, c160, c161, c162, c163, c164, c165, c166, c167, c168, c169, c170, c171, c172, c173, c174, c175, c176, c177, c178, c179, c180, c181, c182, c183, c184, c185, c186, c187, c188, c189, c190, c191, c192, c193, c194, c195, c196, c197, c198, c199, c200, c201, c202, c203, c204, c205, c206, c207, c208, c209, c210, c211, c212, c213, c214, c215, c216, c217, c218, c219, c220, c221, c222, c223], []⟩ wa := by
  have HT := hide ht
  have HIN := hide hin
  have HN0 := hide hn0
  have HX := hide hX
  have HBA := hide hBA
  have HST := hide hst
  have HSA := hide (hst.grew hBA)
  have HK := hide hK
  have hk1 := cell_of (k := 1) HX.out
  have hk2 := cell_of (k := 2) HX.out
  have hk3 := cell_of (k := 3) HX.out
  have hk0 := cell_of (k := 0) HX.out
  simp only [List.getElem?_toArray, List.getElem?_cons_zero, List.getElem?_cons_succ] at hk0 hk1 hk2 hk3
  rw [hkd] at hk0
  have hna := block_lt HX.out
  clear ht hin hn0 hX hBA hst hK hkd
  conv => arg 2; whnf
  obtain ⟨v, D, S, u, hoff, hB, hS⟩ := HST.out.both2 HBA.out
  have HOF := hide (hoff n0 (by rw [HN0.out]; exact Nat.le_refl _))
  have HB := hide hB
  have HS := hide hS
  clear hoff hB hS
  go_wp2_with fail
  refine (append_any _ _ _ A.n _ A.b _ HB.out.own.dk (rd_in HIN.out.rb HB.out.own.below (Nat.le_refl _))).mono ?_
  rintro e w5 ⟨rfl, v5, hm5⟩
  have hd1 : w5.cell? ⟨n0, 1, none⟩ = some (.slice bo A.b.length bc) := hm5.keeps hk1 HOF.out.1
  have hd2 : w5.cell? ⟨n0, 2, none⟩ = some (.int .i64 A.n) := hm5.keeps hk2 HOF.out.1
  have HM5 := hide hm5
  have HB5 := hide (HB.out.left hm5)
  clear hm5 hk0 hk1 hk2 hk3
  go_wp2_with fail
  refine (rappend_any _ _ _ _ _ A.n _ A.b _ HB5.out.ref (rd_in HIN.out.rb HB5.out.own.below (Nat.le_refl _)) (HB5.out.argT HIN.out.rb) HIN.out.lb).mono ?_
  rintro e w6 ⟨rfl, u6, hm6⟩
  have HF := hide (HS.out _ _ _ _ _ HM5.out hm6)
  clear hm6 hd1 hd2
  go_wp2
  exact HK.out _ _ _ _ _ _ _ _ _ _ _ _ _ _ _ _ _ _ _ _ _ _ _ _ _ _ _ _ _ _ _ _ _ _ _ _ _ _ _ _ _ _ _ _ _ _ _ _ _ _ _ _ _ _ _ _ _ _ _ _ _ _ _ _ _ _ _ _ _ _ _ _ _ _ _ _ _ _ _ _ _ _ _ _ _ _ _ _ _ _ _ _ _ _ _ _ _ _ _ _ _ _ _ _ _ _ _ _ _ _ _ _ _ _ _ _ _ _ _ _ _ _ _ _ _ _ _ _ _ _ _ _ _ _ _ _ _ _ _ _ _ _ _ _ _ _ _ _ _ _ _ _ _ _ _ _ _ _ _ _ _ _ _ _ _ _ _ _ _ _ _ _ _ _ _ _ _ _ _ _ _ _ _ _ _ _ _ _ (HF.out)

end Go.Proofs.YtgobnnciijlpaaaDoor
