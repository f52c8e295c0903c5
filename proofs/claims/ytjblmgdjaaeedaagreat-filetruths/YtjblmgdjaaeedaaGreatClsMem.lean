/- Classes as they lie in memory: what is told of a value that reads as one, and how it is carried on. -/
import Derived.Test.YtjblmgdjaaeedaaGreatClsSpec
import Derived.Test.YtjblmgdjaaeedaaGreatBaseOp
namespace Go.Proofs.YtjblmgdjaaeedaaGreat
namespace Cls
open Num Kind Op4
open Go.RowKit
set_option linter.unusedVariables false

/-- A slice of elements that lie 'size' cells apart; E: what it means that an element lies at a place. -/
def Sl {α : Type} (E : World → Nat → Nat → α → Prop) (size : Nat) (w : World) (v : Value) (l : List α) : Prop :=
  ∃ a c, v = .slice a l.length c ∧ l.length ≤ c ∧ c ≤ maxLen ∧ (a = none → c = 0) ∧
    (0 < l.length → ∃ b off, a = some ⟨b, off, none⟩ ∧ b < w.heap.size ∧ ∀ i (h : i < l.length), E w b (off + i * size) l[i])
def Stable {α : Type} (E : World → Nat → Nat → α → Prop) : Prop := ∀ w w' b off x, E w b off x → Below w.heap.size w w' → E w' b off x
theorem Sl.later {α : Type} {E : World → Nat → Nat → α → Prop} (hE : Stable E) {size : Nat} {w w' : World} {v : Value} {l : List α} (h : Sl E size w v l) (hb : Below w.heap.size w w') : Sl E size w' v l := by
  obtain ⟨a, c, h1, h2, h3, h4, h5⟩ := h
  refine ⟨a, c, h1, h2, h3, h4, fun h0 => ?_⟩
  obtain ⟨b, off, e, hlt, hx⟩ := h5 h0
  exact ⟨b, off, e, Nat.lt_of_lt_of_le hlt hb.size, fun i hi => hE _ _ _ _ _ (hx i hi) hb⟩
theorem Sl.none {α : Type} (E : World → Nat → Nat → α → Prop) (size : Nat) (w : World) : Sl E size w (.slice .none 0 0) ([] : List α) :=
  ⟨.none, 0, rfl, Nat.le_refl _, Nat.zero_le _, fun _ => rfl, fun h => absurd h (by simp)⟩

def strE (w : World) (b off : Nat) (s : ByteArray) : Prop := w.cell? ⟨b, off, none⟩ = some (.string s) ∧ s.size ≤ maxLen
theorem strE_stable : Stable strE := fun _ _ _ _ _ h hb => ⟨cellOn h.1 hb, h.2⟩
def insE (w : World) (b off : Nat) (x : InsL) : Prop := InsAt w b off x.o x.a x.c x.m ∧ x.c.size ≤ maxLen ∧ x.m.size ≤ maxLen
theorem insE_stable : Stable insE := fun _ _ _ _ _ h hb => ⟨h.1.later hb, h.2⟩
structure trapE (w : World) (b off : Nat) (t : TrapL) : Prop where
  c0 : w.cell? ⟨b, off, none⟩ = some (.int .i64 t.from')
  c1 : w.cell? ⟨b, off + 1, none⟩ = some (.int .i64 t.to)
  c2 : w.cell? ⟨b, off + 2, none⟩ = some (.int .i64 t.at')
  c3 : w.cell? ⟨b, off + 3, none⟩ = some (.string t.c)
  sz : t.c.size ≤ maxLen
theorem trapE_stable : Stable trapE := fun _ _ _ _ _ h hb => ⟨cellOn h.c0 hb, cellOn h.c1 hb, cellOn h.c2 hb, cellOn h.c3 hb, h.sz⟩
structure fieldE (w : World) (b off : Nat) (f : FieldL) : Prop where
  c0 : w.cell? ⟨b, off, none⟩ = some (.string f.name)
  c1 : w.cell? ⟨b, off + 1, none⟩ = some (.string f.type)
  c2 : w.cell? ⟨b, off + 2, none⟩ = some (.bool f.static)
  s0 : f.name.size ≤ maxLen
  s1 : f.type.size ≤ maxLen
theorem fieldE_stable : Stable fieldE := fun _ _ _ _ _ h hb => ⟨cellOn h.c0 hb, cellOn h.c1 hb, cellOn h.c2 hb, h.s0, h.s1⟩
def mapE (w : World) (b off : Nat) (x : MapL) : Prop :=
  ∃ v1 v2, w.cell? ⟨b, off, none⟩ = some (.int .i64 x.at') ∧ w.cell? ⟨b, off + 1, none⟩ = some v1 ∧ w.cell? ⟨b, off + 2, none⟩ = some v2 ∧ Sl strE 1 w v1 x.locals ∧ Sl strE 1 w v2 x.stack
theorem mapE_stable : Stable mapE := fun _ _ _ _ _ ⟨v1, v2, h0, h1, h2, h3, h4⟩ hb => ⟨v1, v2, cellOn h0 hb, cellOn h1 hb, cellOn h2 hb, h3.later strE_stable hb, h4.later strE_stable hb⟩

/-- A method's slices read as they should. -/
structure MethV (w : World) (v1 v7 v8 v9 : Value) (m : MethL) : Prop where
  params : Sl strE 1 w v1 m.params
  code : Sl insE 4 w v7 m.code
  maps : Sl mapE 3 w v8 m.maps
  traps : Sl trapE 4 w v9 m.traps
  s0 : m.name.size ≤ maxLen
  s2 : m.ret.size ≤ maxLen
theorem MethV.later {w w' : World} {v1 v7 v8 v9 : Value} {m : MethL} (h : MethV w v1 v7 v8 v9 m) (hb : Below w.heap.size w w') : MethV w' v1 v7 v8 v9 m :=
  ⟨h.params.later strE_stable hb, h.code.later insE_stable hb, h.maps.later mapE_stable hb, h.traps.later trapE_stable hb, h.s0, h.s2⟩
def methCells (v1 v7 v8 v9 : Value) (m : MethL) : Array Value := #[.string m.name, v1, .string m.ret, .bool m.static, .bool m.abstract, .int .i64 m.locals, .int .i64 m.stack, v7, v8, v9]
def methE (w : World) (b off : Nat) (m : MethL) : Prop :=
  ∃ v1 v7 v8 v9, MethV w v1 v7 v8 v9 m ∧ ∀ j, j < 10 → w.cell? ⟨b, off + j, none⟩ = (methCells v1 v7 v8 v9 m)[j]?
theorem methE_stable : Stable methE := fun w w' b off m ⟨v1, v7, v8, v9, h, hc⟩ hb => by
  refine ⟨v1, v7, v8, v9, h.later hb, fun j hj => ?_⟩
  have := hc j hj
  have hj' : j < (methCells v1 v7 v8 v9 m).size := by simpa [methCells] using hj
  rw [Array.getElem?_eq_getElem hj'] at this ⊢
  exact cellOn this hb
/-- A class's slices read as they should. -/
structure ClsV (w : World) (v3 v4 v5 : Value) (c : ClsL) : Prop where
  impl : Sl strE 1 w v3 c.impl
  fields : Sl fieldE 3 w v4 c.fields
  methods : Sl methE 10 w v5 c.methods
  s0 : c.name.size ≤ maxLen
  s1 : c.super.size ≤ maxLen
theorem ClsV.later {w w' : World} {v3 v4 v5 : Value} {c : ClsL} (h : ClsV w v3 v4 v5 c) (hb : Below w.heap.size w w') : ClsV w' v3 v4 v5 c :=
  ⟨h.impl.later strE_stable hb, h.fields.later fieldE_stable hb, h.methods.later methE_stable hb, h.s0, h.s1⟩
def clsVal (v3 v4 v5 : Value) (c : ClsL) : Value := .agg #[.string c.name, .string c.super, .bool c.iface, v3, v4, v5]
def methVal (v1 v7 v8 v9 : Value) (m : MethL) : Value := .agg (methCells v1 v7 v8 v9 m)

theorem place_step {α : Type} (p : α → Bool) (l : List α) (k : Nat) (h : k < l.length) : place p k (l.drop k) = if p l[k] then (k : Int) else place p (k + 1) (l.drop (k + 1)) := by
  rw [List.drop_eq_getElem_cons h]
  rfl
theorem place_end {α : Type} (p : α → Bool) (l : List α) (k : Nat) (h : l.length ≤ k) : place p k (l.drop k) = -1 := by
  rw [List.drop_eq_nil_of_le h]
  rfl
end Cls
end Go.Proofs.YtjblmgdjaaeedaaGreat
