/- Package rule, plain: which definitions can be. -/
import Derived.Test.YtkpgfhapffijkaaGreatDoorR03
import Derived.Test.YtkpgfhapffijkaaGreatDoorR22
import Derived.Test.YtkpgfhapffijkaaGreatDoorR32
namespace Go.Proofs.YtkpgfhapffijkaaGreatDoor
open Go.DsLx Go.DsJd Go.DsMk
set_option linter.unusedVariables false
/-- calendars, from place i on -/
def calErr (cs : List (ByteArray × Nd)) (S : Sl) (c : ByteArray × Nd) : Int := if twF S (1, (c.1, 0)) then 22 else refF cs c.2 1
def goC (cs : List (ByteArray × Nd)) : List (ByteArray × Nd) → Nat → Sl → Except (Int × Int × Int) Sl
  | [], _, S => .ok S
  | c :: l, i, S => if calErr cs S c = 0 then goC cs l (i + 1) (S ++ [((1, (c.1, 0)), (i : Int))]) else .error (1, (i : Int), calErr cs S c)
abbrev Rc := ByteArray × (Int × Bool)
def resErr (S : Sl) (r : Rc) : Int := if twF S (2, (r.1, 0)) then 22 else if 1000 < r.2.1 then 6 else 0
def goR : List Rc → Nat → Sl → Except (Int × Int × Int) Sl
  | [], _, S => .ok S
  | r :: l, i, S => if resErr S r = 0 then goR l (i + 1) (S ++ [((2, (r.1, 0)), (i : Int))]) else .error (2, (i : Int), resErr S r)
def jobDaysF (cs : List (ByteArray × Nd)) (j : Jb) : Int :=
  if j.days.op ≠ 0 ∧ refF cs j.days 1 ≠ 0 then refF cs j.days 1 else if j.shift = false then 0 else refF cs j.work 1
def numsCan (j : Jb) : Bool := decide (j.prio ≤ 99) && decide (j.wait ≤ 99) && decide (j.every ≤ 10080) && decide (1 ≤ j.runs) && decide (j.runs ≤ 99) && decide (j.retry ≤ 99)
/-- the kind of what stands in the list of what stood -/
def lookF (S : Sl) (k : Sk) : Option Int := (S.find? (fun p => decide (p.1 = k))).map (·.2)
def needErr (S : Sl) (res : List Rc) (n : Nv) : Int :=
  match lookF S (2, (n.1, 0)) with
  | none => 21
  | some i => if (match res[i.toNat]? with | some r => r.2.2 | none => false) = decide (n.2.2 ≠ 0) then 0 else 1
def goN (S : Sl) (res : List Rc) : List Nv → Nat → Sl → Except Int Sl
  | [], _, M => .ok M
  | n :: l, i, M => if needErr S res n ≠ 0 then .error (needErr S res n) else if twF M (4, (n.1, 0)) then .error 22 else if n.2.2 = 0 ∧ (n.2.1 < 1 ∨ 1000 < n.2.1) then .error 6 else goN S res l (i + 1) (M ++ [((4, (n.1, 0)), (i : Int))])
def goO : List Oc → Nat → Sl → Except Int Sl
  | [], _, M => .ok M
  | o :: l, i, M => if o.1 = 0 ∧ o.2.2 = 2 then .error 1 else if twF M (5, (o.2.1, o.2.2)) then .error 22 else goO l (i + 1) (M ++ [((5, (o.2.1, o.2.2)), (i : Int))])
def partsE (S : Sl) (res : List Rc) (j : Jb) : Int := match goN S res j.needs 0 [] with
  | .error e => e
  | .ok M => match goO j.outs 0 M with
    | .error e => e
    | .ok _ => 0
def jobErr (cs : List (ByteArray × Nd)) (res : List Rc) (S : Sl) (j : Jb) : Int :=
  if twF S (3, (j.name, 0)) then 22 else if jobDaysF cs j ≠ 0 then jobDaysF cs j else if numsCan j = false then 6 else partsE S res j
def goJ (cs : List (ByteArray × Nd)) (res : List Rc) : List Jb → Nat → Sl → Except (Int × Int × Int) Sl
  | [], _, S => .ok S
  | j :: l, i, S => if jobErr cs res S j = 0 then goJ cs res l (i + 1) (S ++ [((3, (j.name, 0)), (i : Int))]) else .error (3, (i : Int), jobErr cs res S j)
def checkF (x : Srcp) : Int × Int × Int :=
  if 99 < x.keep then (0, 0, 6) else match goC x.cals x.cals 0 [] with
  | .error f => f
  | .ok S => match goR x.res 0 S with
    | .error f => f
    | .ok S2 => match goJ x.cals x.res x.jobs 0 S2 with
      | .error f => f
      | .ok _ => (0, 0, 0)
end Go.Proofs.YtkpgfhapffijkaaGreatDoor
