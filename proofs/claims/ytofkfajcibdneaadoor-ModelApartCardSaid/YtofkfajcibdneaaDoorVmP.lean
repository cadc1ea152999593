
/-
  Handlers in plain data: what an instruction does, what a run comes to (P5.1, P5.2). No program in this text.
-/
import Derived.Test.YtofkfajcibdneaaDoorMsg2
import Derived.Test.YtofkfajcibdneaaDoorCode7
import Derived.Test.YtofkfajcibdneaaDoorMix
namespace Go.Proofs.YtofkfajcibdneaaDoor
open Go.ChangeShapes Go.WideShapes Go.ChangeAt Go.RowKit Go.Sort

/-- A link. -/
structure Lk where
  src : Int
  dst : Int
  look : Int
  loose : Bool
  deriving DecidableEq, Inhabited
def Lk.val (l : Lk) : Value := .agg #[.int .i64 l.src, .int .i64 l.dst, .int .i64 l.look, .bool l.loose]
def Lk.cells (l : Lk) : Array Value := #[.int .i64 l.src, .int .i64 l.dst, .int .i64 l.look, .bool l.loose]
/-- What is sent. -/
structure Ot where
  link : Int
  delay : Int
  value : Int
  deriving DecidableEq, Inhabited
def Ot.cells (o : Ot) : Array Value := #[.int .i64 o.link, .int .i64 o.delay, .int .i64 o.value]
/-- A state: eight registers, how many draws, how many sent. -/
structure Sta where
  r : List Int
  d : Int
  s : Int
  deriving DecidableEq, Inhabited
def Sta.cells (s : Sta) : Array Value := (s.r.map (Value.int .i64 ·) ++ [Value.int .i64 s.d, Value.int .i64 s.s]).toArray
def Sta.val (s : Sta) : Value := .agg s.cells
def Sta.zero : Sta := ⟨[0, 0, 0, 0, 0, 0, 0, 0], 0, 0⟩
/-- A world, as plain data. -/
structure Wd where
  prog : List I
  self : Int
  links : List Lk
  seed : Nat
/-- A handler that runs: sixteen registers, how many draws, what was sent, the place. -/
structure Mc where
  r : List Int
  d : Int
  o : List Ot
  pc : Int
  deriving Inhabited
inductive Res where
  | on (m : Mc) : Res
  | stop (m : Mc) : Res
  | fault (e : Int) : Res
def Mc.reg (m : Mc) (i : Int) : Int := m.r.getD i.toNat 0
def Mc.put (m : Mc) (i v : Int) : Mc := { m with r := m.r.set i.toNat v }

/-- Two numbers, by an instruction. -/
def mathP (op b c : Int) : Int :=
  if op = 3 then wrap64 (b + c) else if op = 4 then wrap64 (b - c) else if op = 5 then wrap64 (b * c)
  else if op = 8 then (if b < c then 1 else 0) else if op = 9 then (if b = c then 1 else 0)
  else if c = 0 then 0
  else if op = 6 then wrap64 (b.tdiv c) else b.tmod c
/-- Below, of any bound. -/
def belowP (seed : Nat) (self n k : Int) : Int := if k < 1 then 0 else ((atN seed self n % k.toNat : Nat) : Int)
/-- Sending. -/
def sendP (W : Wd) (t : Int) (i : I) (m : Mc) : Res :=
  if W.links.length = 0 ∨ 8 ≤ m.o.length then .on m
  else if m.reg i.b < (W.links.getD (m.reg i.a % (W.links.length : Int)).toNat default).look then .fault 50
  else if 4611686018427387903 - t < m.reg i.b then .fault 10
  else .on { m with o := m.o ++ [⟨m.reg i.a % (W.links.length : Int), m.reg i.b, m.reg i.c⟩] }
/-- An instruction; the place is behind it already. -/
def stepP (W : Wd) (ev : M) (i : I) (m : Mc) : Res :=
  if i.op = 0 then .stop m
  else if i.op = 1 then .on (m.put i.a i.b)
  else if i.op = 2 then .on (m.put i.a (m.reg i.b))
  else if i.op = 10 then .on { m with pc := i.a }
  else if i.op = 11 then .on (if m.reg i.a = 0 then { m with pc := i.b } else m)
  else if i.op = 12 then sendP W ev.k.t i m
  else if i.op = 13 then .on { m.put i.a (belowP W.seed W.self m.d (m.reg i.b)) with d := m.d + 1 }
  else if i.op = 14 then .on (m.put i.a ev.v)
  else if i.op = 15 then .on (m.put i.a ev.k.t)
  else if i.op = 16 then .on (m.put i.a W.self)
  else .on (m.put i.a (mathP i.op (m.reg i.b) (m.reg i.c)))
/-- As many instructions as there is fuel for. -/
def runP (W : Wd) (ev : M) : Nat → Mc → Res
  | 0, m => .stop m
  | f + 1, m => if m.pc < (W.prog.length : Int) then
      (match stepP W ev (W.prog.getD m.pc.toNat default) { m with pc := m.pc + 1 } with
        | .on m' => runP W ev f m'
        | r => r)
      else .stop m
def endP (s : Sta) : Res → Sta × List Ot × Int
  | .fault e => (s, [], e)
  | .on m => (⟨m.r.take 8, m.d, s.s + m.o.length⟩, m.o, 0)
  | .stop m => (⟨m.r.take 8, m.d, s.s + m.o.length⟩, m.o, 0)
def Lk.mayB (l : Lk) : Bool := decide (0 ≤ l.dst ∧ l.dst < 16 ∧ 1 ≤ l.look ∧ l.look ≤ 4611686018427387903)
/-- Check. -/
def checkW (W : Wd) : Int :=
  if checkN W.prog ≠ 0 then checkN W.prog
  else if ¬ (0 ≤ W.self ∧ W.self < 16) ∨ 1024 < W.links.length then 1
  else if W.links.all Lk.mayB then 0 else 1
def Sta.mayB (s : Sta) : Bool := decide (0 ≤ s.d ∧ s.d ≤ 1125899906842624 ∧ 0 ≤ s.s ∧ s.s ≤ 1125899906842624)
def firstP (s : Sta) : Mc := ⟨s.r ++ [0, 0, 0, 0, 0, 0, 0, 0], s.d, [], 0⟩
/-- Run. -/
def runW (W : Wd) (s : Sta) (ev : M) : Sta × List Ot × Int :=
  if checkW W ≠ 0 then (Sta.zero, [], checkW W)
  else if chkM ev ≠ 0 ∨ s.mayB = false then (Sta.zero, [], 1)
  else endP s (runP W ev 4096 (firstP s))

end Go.Proofs.YtofkfajcibdneaaDoor
