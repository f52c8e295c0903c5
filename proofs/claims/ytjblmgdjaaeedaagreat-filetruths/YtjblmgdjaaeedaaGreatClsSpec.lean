/- What the document says of classes (no program in it): texts are bytes. -/
import Derived.Test.YtjblmgdjaaeedaaGreatBaseOp
namespace Go.Proofs.YtjblmgdjaaeedaaGreat
namespace Cls
open Num Kind Op4
set_option linter.unusedVariables false

structure FieldL where
  name : ByteArray
  type : ByteArray
  static : Bool
structure MapL where
  at' : Int
  locals : List ByteArray
  stack : List ByteArray
structure TrapL where
  from' : Int
  to : Int
  at' : Int
  c : ByteArray
structure InsL where
  o : Int
  a : Int
  c : ByteArray
  m : ByteArray
structure MethL where
  name : ByteArray
  params : List ByteArray
  ret : ByteArray
  static : Bool
  abstract : Bool
  locals : Int
  stack : Int
  code : List InsL
  maps : List MapL
  traps : List TrapL
structure ClsL where
  name : ByteArray
  super : ByteArray
  iface : Bool
  impl : List ByteArray
  fields : List FieldL
  methods : List MethL

def objectL : List Int := [79, 98, 106, 101, 99, 116]
/-- The first place at which a test holds, from a place on; -1. -/
def place {α : Type} (p : α → Bool) : Nat → List α → Int
  | _, [] => -1
  | i, x :: r => if p x then (i : Int) else place p (i + 1) r
def fieldP (c : ClsL) (n : ByteArray) : Int := place (fun f : FieldL => f.name.toList == n.toList) 0 c.fields
def methodP (c : ClsL) (n : ByteArray) : Int := place (fun m : MethL => m.name.toList == n.toList) 0 c.methods

def insB (n : Nat) (x : InsL) : Bool := mayIns x.o x.a (nums x.c) (nums x.m) && !(jumpsB x.o && decide ((n : Int) ≤ x.a))
def trapB (n : Nat) (t : TrapL) : Bool := !(decide (t.from' < 0) || decide (t.to ≤ t.from') || decide ((n : Int) < t.to) || decide (t.at' < 0) || decide ((n : Int) ≤ t.at') || (!(nums t.c == []) && !classB (nums t.c)))
def bodyB (m : MethL) : Bool :=
  (decide (1 ≤ m.code.length) && decide (m.code.length ≤ 100)) && ((m.code.getLast?.any fun x => endsB x.o) && (decide (m.traps.length ≤ 6) && (m.code.all (insB m.code.length) && m.traps.all (trapB m.code.length))))
def localB (s : ByteArray) : Bool := (nums s == [84]) || ((nums s == [78]) || mayB (nums s))
def stackB (s : ByteArray) : Bool := (nums s == [78]) || mayB (nums s)
/-- Maps, each behind the one ahead of it ('last': its place). -/
def mapsB (n : Nat) (locals stack : Int) : Option Int → List MapL → Bool
  | _, [] => true
  | last, x :: r => (decide (0 ≤ x.at') && decide (x.at' < (n : Int)) && (match last with | none => true | some l => decide (l < x.at')) && decide ((x.locals.length : Int) = locals) && decide ((x.stack.length : Int) ≤ stack)) &&
      (x.locals.all localB && (x.stack.all stackB && mapsB n locals stack (some x.at') r))
def mayMeth (m : MethL) : Bool :=
  if !nameB (nums m.name) || decide (6 < m.params.length) || !retB (nums m.ret) then false
  else if !(m.params.all fun p => mayB (nums p)) then false
  else if m.abstract then !m.static && (!(nums m.name == initL) && (decide (m.locals = 0) && (decide (m.stack = 0) && (decide (m.code.length = 0) && (decide (m.maps.length = 0) && decide (m.traps.length = 0))))))
  else if (nums m.name == initL) && (!m.static || (decide (0 < m.params.length) || !(nums m.ret == [86]))) then false
  else if decide (m.locals < (m.params.length : Int) + (if m.static then 0 else 1)) || (decide (16 < m.locals) || (decide (m.stack < 0) || decide (16 < m.stack))) then false
  else bodyB m && (decide (m.maps.length ≤ 100) && mapsB m.code.length m.locals m.stack none m.maps)
/-- No text twice: each is unlike those ahead of it. -/
def unlike : List ByteArray → List ByteArray → Bool
  | _, [] => true
  | seen, x :: r => (seen.all fun y => !(y.toList == x.toList)) && unlike (seen ++ [x]) r
end Cls
end Go.Proofs.YtjblmgdjaaeedaaGreat
