/- An instruction in memory, carried on. -/
import Derived.Test.YtbfcjflgomedgaaOpIns
import Derived.Test.YtbfcjflgomedgaaLibOwn
namespace Go.Proofs.Ytbfcjflgomedgaa
namespace Op4
open Num Kind
open Go.RowKit
set_option linter.unusedVariables false
set_option maxRecDepth 100000

structure InsAt (w : World) (b off : Nat) (o a : Int) (c m : ByteArray) : Prop where
  c0 : w.cell? ⟨b, off, none⟩ = some (.int .i64 o)
  c1 : w.cell? ⟨b, off + 1, none⟩ = some (.int .i64 a)
  c2 : w.cell? ⟨b, off + 2, none⟩ = some (.string c)
  c3 : w.cell? ⟨b, off + 3, none⟩ = some (.string m)
theorem InsAt.later {w w' : World} {b off : Nat} {o a : Int} {c m : ByteArray} (h : InsAt w b off o a c m) (hb : Below w.heap.size w w') : InsAt w' b off o a c m :=
  ⟨cellOn h.c0 hb, cellOn h.c1 hb, cellOn h.c2 hb, cellOn h.c3 hb⟩
theorem InsAt.new (w : World) (o a : Int) (c m : ByteArray) (t : TypeId) : InsAt (w.alloc (.cells #[.int .i64 o, .int .i64 a, .string c, .string m] t)) w.heap.size 0 o a c m :=
  ⟨cell_new _ _ _ 0, cell_new _ _ _ 1, cell_new _ _ _ 2, cell_new _ _ _ 3⟩
theorem InsAt.alloc {w : World} {b off : Nat} {o a : Int} {c m : ByteArray} (h : InsAt w b off o a c m) (x : Obj) : InsAt (w.alloc x) b off o a c m :=
  h.later ((Below.refl _ _).alloc (Nat.le_refl _) _)
end Op4
end Go.Proofs.Ytbfcjflgomedgaa
