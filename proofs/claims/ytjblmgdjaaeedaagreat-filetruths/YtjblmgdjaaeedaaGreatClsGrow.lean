/- A struct in a block of its own that is stored into; rows of structs that grow. -/
import Derived.Test.YtjblmgdjaaeedaaGreatClsBegun
import Derived.Deep.Slices
import Derived.Lib.SmallJoins
import Derived.OneCell
namespace Go.Proofs.YtjblmgdjaaeedaaGreat
namespace Cls
open Num Kind Op4
open Go.RowKit
set_option linter.unusedVariables false
set_option maxRecDepth 100000

theorem blk_cell {w : World} {B T : Nat} {cs : Array Value} (h : w.heap[B]? = some (.cells cs T (0, 0))) (j : Nat) : w.cell? ⟨B, j, none⟩ = cs[j]? := by
  simp only [World.cell?, h]
  rfl
theorem blk_free {w : World} {B T : Nat} {cs : Array Value} (h : w.heap[B]? = some (.cells cs T (0, 0))) (j : Nat) : w.frozen? ⟨B, j, none⟩ = false := by
  simp only [World.frozen?, h]
  simp
theorem blk_set {w : World} {B T : Nat} {cs : Array Value} (h : w.heap[B]? = some (.cells cs T (0, 0))) (j : Nat) (u : Value) : (w.setCell ⟨B, j, none⟩ u).heap[B]? = some (.cells (cs.setIfInBounds j u) T (0, 0)) := by
  have hlt := lt_of_block h
  have h' : w.heap[B] = .cells cs T (0, 0) := by simpa [Array.getElem?_eq_getElem hlt] using h
  show (w.heap.modify B _)[B]? = _
  rw [Array.getElem?_eq_getElem (by simpa using hlt), Array.getElem_modify_self, h']
  rfl
theorem blk_new (w : World) (cs : Array Value) (T : Nat) : (w.alloc (.cells cs T)).heap[w.heap.size]? = some (.cells cs T (0, 0)) := heap_alloc_new w _
theorem blk_on {w w' : World} {B T : Nat} {cs : Array Value} (h : w.heap[B]? = some (.cells cs T (0, 0))) (hb : Below w.heap.size w w') : w'.heap[B]? = some (.cells cs T (0, 0)) := by
  rw [hb.block B (lt_of_block h)]
  exact h
theorem blk_up {w w' : World} {B B0 T : Nat} {cs : Array Value} (h : w.heap[B]? = some (.cells cs T (0, 0))) (hb : Below B0 w w') (hB : B < B0) : w'.heap[B]? = some (.cells cs T (0, 0)) := by
  rw [hb.block B hB]
  exact h
theorem blk_grown {w w' : World} {B T : Nat} {cs : Array Value} {row : Option Nat} (h : w.heap[B]? = some (.cells cs T (0, 0))) (hg : w.grownBy w' row) (hne : some B ≠ row) : w'.heap[B]? = some (.cells cs T (0, 0)) := by
  obtain ⟨_, _, _, _, hb⟩ := hg
  rw [hb B (lt_of_block h) hne]
  exact h
/-- A row of the call's own, read as a slice of elements. -/
theorem Sl.own {α : Type} {E : World → Nat → Nat → α → Prop} {size base e : Nat} {w : World} {v : Value} {n : Nat} {l : List α} {cells : List Value} (h : w.ownsRow base e size v n cells) (hl : l.length = n)
    (hE : ∀ b, (∀ j u, cells[j]? = some u → w.cell? ⟨b, j, Option.none⟩ = some u) → ∀ i (h : i < l.length), E w b (i * size) l[i]) : Sl E size w v l := by
  have hlt := h.lt
  have hc := fun g hg => h.cells (g := g) hg
  rcases h.2 with ⟨rfl, rfl⟩ | ⟨g, cap, cur, rfl, _, _, hnc, hcm, _, _⟩
  · refine ⟨Option.none, 0, by rw [hl], by omega, Nat.zero_le _, fun _ => rfl, fun h0 => absurd h0 (by omega)⟩
  · refine ⟨some ⟨g, 0, Option.none⟩, cap, by rw [hl], by omega, hcm, fun e => (by cases e), fun h0 => ⟨g, 0, rfl, (hlt g rfl).2, fun i hi => ?_⟩⟩
    rw [Nat.zero_add]
    refine hE g (fun j u hj => ?_) i hi
    have := hc g rfl j u hj
    rwa [Addr.add_lit, Nat.zero_add] at this
/-- Rows of unlike elements are apart. -/
theorem own_apart {w : World} {B B' : Nat} {e e' : TypeId} {s s' : Nat} {v v' : Value} {n n' : Nat} {xs xs' : List Value} (h : w.ownsRow B e s v n xs) (h' : w.ownsRow B' e' s' v' n' xs') (hne : e ≠ e') : v.ownBlock = none ∨ v.ownBlock ≠ v'.ownBlock := by
  rcases h.2 with ⟨rfl, _⟩ | ⟨g, cap, cur, rfl, _, hg, _⟩
  · exact .inl rfl
  · right
    rcases h'.2 with ⟨rfl, _⟩ | ⟨g', cap', cur', rfl, _, hg', _⟩
    · intro e; cases e
    · intro e
      have e1 : g = g' := by simpa [Value.ownBlock] using e
      subst e1
      rw [hg] at hg'
      simp at hg'
      exact hne hg'.2
def nmS (p : Int) (k : Nat) : ByteArray := strOfNums [p, 48 + k]
theorem infoF : (Tryz.prog.info? 40).map (fun i => (i.zero, i.size, i.bytes)) = some (some (.agg #[.string ⟨#[]⟩, .string ⟨#[]⟩, .bool false]), 3, 40) := by kernel_rfl
theorem infoS : (Tryz.prog.info? 9).map (fun i => (i.zero, i.size, i.bytes)) = some (some (.string ⟨#[]⟩), 1, 16) := by kernel_rfl
theorem infoI : (Tryz.prog.info? 48).map (fun i => (i.zero, i.size, i.bytes)) = some (some (.agg #[.int .i64 0, .int .i64 0, .string ⟨#[]⟩, .string ⟨#[]⟩]), 4, 48) := by kernel_rfl
theorem infoT : (Tryz.prog.info? 80).map (fun i => (i.zero, i.size, i.bytes)) = some (some (.agg #[.int .i64 0, .int .i64 0, .int .i64 0, .string ⟨#[]⟩]), 4, 40) := by kernel_rfl
theorem infoM : (Tryz.prog.info? 46).map (fun i => (i.zero, i.size, i.bytes)) = some (some (.agg #[.string ⟨#[]⟩, .slice none 0 0, .string ⟨#[]⟩, .bool false, .bool false, .int .i64 0, .int .i64 0, .slice none 0 0, .slice none 0 0, .slice none 0 0]), 10, 152) := by kernel_rfl
def fcells (k : Nat) : List Value := [.string (nmS 102 k), .string ⟨#[73]⟩, .bool false]
def cellsF : Nat → List Value
  | 0 => []
  | k + 1 => cellsF k ++ fcells k
end Cls
end Go.Proofs.YtjblmgdjaaeedaaGreat
