/- What the document says of classes, part by part as package class asks it (no program in it). -/
import Derived.Test.YtjblmgdjaaeedaaGreatClsMem
namespace Go.Proofs.YtjblmgdjaaeedaaGreat
namespace Cls
open Num Kind Op4
set_option linter.unusedVariables false

def withinB (n lo hi : Int) : Bool := decide (lo ≤ n) && decide (n ≤ hi)
def valueB (s : ByteArray) : Bool := (nums s == [73]) || ((nums s == [78]) || refB (nums s))
def locB (s : ByteArray) : Bool := (nums s == [84]) || valueB s
def standB (lo st : Int) (x : MapL) : Bool := (decide ((x.locals.length : Int) = lo) && decide ((x.stack.length : Int) ≤ st)) && (x.locals.all locB && x.stack.all valueB)
def mapsP (n : Nat) (lo st : Int) : Int → List MapL → Bool
  | _, [] => true
  | least, x :: r => (withinB x.at' least ((n : Int) - 1) && standB lo st x) && mapsP n lo st (x.at' + 1) r
def trapP (n : Int) (t : TrapL) : Bool := decide (0 ≤ t.from') && (decide (t.from' < t.to) && (decide (t.to ≤ n) && (withinB t.at' 0 (n - 1) && ((nums t.c == []) || classB (nums t.c)))))
def trapsP (n : Int) (l : List TrapL) : Bool := decide (l.length ≤ 6) && l.all (trapP n)
def codeP (l : List InsL) : Bool := withinB l.length 1 100 && (l.all (insB l.length) && (l.getLast?.any fun x => endsB x.o))
def roomP (np : Nat) (st : Bool) (lo sk : Int) : Bool := withinB lo (if st then (np : Int) else np + 1) 16 && withinB sk 0 16
def beginsP (np : Nat) (st : Bool) (rt : ByteArray) : Bool := st && (decide (np = 0) && (nums rt == [86]))
def bodilessP (lo sk : Int) (nc nm nt : Nat) : Bool := decide (lo = 0) && (decide (sk = 0) && (decide (nc = 0) && (decide (nm = 0) && decide (nt = 0))))
def paramsP (l : List ByteArray) : Bool := decide (l.length ≤ 6) && l.all fun p => mayB (nums p)
def methP (m : MethL) : Bool :=
  (nameB (nums m.name) && (paramsP m.params && retB (nums m.ret))) &&
    (if m.abstract then !m.static && (!(nums m.name == initL) && bodilessP m.locals m.stack m.code.length m.maps.length m.traps.length)
     else if (nums m.name == initL) && !beginsP m.params.length m.static m.ret then false
     else roomP m.params.length m.static m.locals m.stack && (codeP m.code && (trapsP m.code.length m.traps && (decide (m.maps.length ≤ 100) && mapsP m.code.length m.locals m.stack 0 m.maps))))
def fieldB (f : FieldL) : Bool := !(nums f.name == initL) && (nameB (nums f.name) && mayB (nums f.type))
/-- Of each element, with its place. -/
def allI {α : Type} (p : Nat → α → Bool) : Nat → List α → Bool
  | _, [] => true
  | i, x :: r => p i x && allI p (i + 1) r
theorem allI_step {α : Type} (p : Nat → α → Bool) (l : List α) (k : Nat) (h : k < l.length) : allI p k (l.drop k) = (p k l[k] && allI p (k + 1) (l.drop (k + 1))) := by
  rw [List.drop_eq_getElem_cons h]
  rfl
theorem allI_end {α : Type} (p : Nat → α → Bool) (l : List α) (k : Nat) (h : l.length ≤ k) : allI p k (l.drop k) = true := by
  rw [List.drop_eq_nil_of_le h]
  rfl
def fplace (F : List FieldL) (n : ByteArray) : Int := place (fun f : FieldL => f.name.toList == n.toList) 0 F
def mplace (F : List MethL) (n : ByteArray) : Int := place (fun f : MethL => f.name.toList == n.toList) 0 F
def splace (F : List ByteArray) (n : ByteArray) : Int := place (fun f : ByteArray => n.toList == f.toList) 0 F
def fieldsP (F : List FieldL) : Bool := decide (F.length ≤ 8) && allI (fun k f => fieldB f && (fplace F f.name == (k : Int))) 0 F
def methsP (F : List MethL) : Bool := decide (F.length ≤ 8) && allI (fun k f => methP f && (mplace F f.name == (k : Int))) 0 F
def implP (F : List ByteArray) : Bool := decide (F.length ≤ 4) && allI (fun k f => classB (nums f) && (splace F f == (k : Int))) 0 F
def keepsP (c : ClsL) : Bool := !(c.iface && (!(nums c.super == objectL) || decide (0 < c.fields.length))) && c.methods.all fun m => m.abstract == c.iface
def mayP (c : ClsL) : Bool := classB (nums c.name) && (classB (nums c.super) && (implP c.impl && (fieldsP c.fields && (methsP c.methods && keepsP c))))
end Cls
end Go.Proofs.YtjblmgdjaaeedaaGreat
