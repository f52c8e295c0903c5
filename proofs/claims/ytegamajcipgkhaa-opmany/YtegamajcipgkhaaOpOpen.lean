/- A list of instructions that came in, opened. -/
import Derived.Test.YtegamajcipgkhaaOpList
import Derived.OpenShut
namespace Go.Proofs.Ytegamajcipgkhaa
namespace Op4
open Num Kind
open Go.RowKit
set_option linter.unusedVariables false

def IsIns (w : World) (a : Option Addr) (len cap : Nat) (L : List I4) : Prop :=
  L.length = len ∧ len ≤ cap ∧ cap ≤ maxLen ∧ (∀ x ∈ L, okI x) ∧ (0 < len → ∃ b off, a = some ⟨b, off, none⟩ ∧ b < w.heap.size ∧ ∀ i (h : i < L.length), InsAt w b (off + i * 4) L[i].1 L[i].2.1 L[i].2.2.1 L[i].2.2.2)

theorem cells_ins : Try.prog.cellsOf 23 = 4 := by kernel_rfl
theorem spot_none {w : World} {a : Addr} {v : Value} (h : w.cell? a = some v) : a.spot = none := by
  cases hs : a.spot with
  | none => rfl
  | some s =>
    unfold World.cell? at h
    split at h
    · simp [hs] at h
    · cases h
theorem add2 (a : Addr) (i j : Nat) : (a.add i).add j = a.add (i + j) := by
  obtain ⟨b, off, sp⟩ := a
  simp only [Addr.add]
  by_cases hi : i = 0 <;> by_cases hj : j = 0 <;> simp_all <;> omega
theorem open_ins {H : Type} {enc : TypeId × Value → H} {W : World} {base : Nat} {spare : Nat → Bool} {held : Bool} {fuel : Nat} {cs : List Value} {x : DataW H × List MemPlace} (h : DataW.trod enc Try.prog W base spare held fuel 39 cs = some x) :
    ∃ a len cap L, cs = [.slice a len cap] ∧ IsIns W a len cap L := by
  rcases Deep.open_slice Try.underlying39 h with ⟨rfl, _⟩ | ⟨a, len, cap, m, n, D, Pl, rfl, _, hl, hm, hmm, _, hx⟩
  · exact ⟨none, 0, 0, [], rfl, rfl, Nat.le_refl _, Nat.zero_le _, fun x hx => by simp at hx, fun h => absurd h (by omega)⟩
  · have hlm : len ≤ m := by rw [hmm]; split <;> omega
    have each : ∀ i, i < len → ∃ q : I4, okI q ∧ W.cell? (a.add (i * 4)) = some (.int .i64 q.1) ∧ W.cell? (a.add (i * 4 + 1)) = some (.int .i64 q.2.1) ∧ W.cell? (a.add (i * 4 + 2)) = some (.string q.2.2.1) ∧ W.cell? (a.add (i * 4 + 3)) = some (.string q.2.2.2) := by
      intro i hi
      obtain ⟨cs', h1, h2⟩ := hx i (by omega)
      rw [cells_ins] at h1
      obtain ⟨_, hlen, hcell⟩ := World.cells?_some h1
      obtain ⟨y0, y1, y2, y3, k, _, _, t0, t1, t2, t3⟩ := Joins.trod_struct4 Try.underlying23 h2
      match cs', hlen with
      | [v0, v1, v2, v3], _ =>
        obtain ⟨o, e0, _, w0⟩ := DataW.trod_int Try.underlying3 t0
        obtain ⟨p, e1, _, w1⟩ := DataW.trod_int Try.underlying3 t1
        obtain ⟨c, e2, _, w2⟩ := DataW.trod_string Try.underlying9 t2
        obtain ⟨q, e3, _, w3⟩ := DataW.trod_string Try.underlying9 t3
        have f0 := hcell 0 (by omega)
        have f1 := hcell 1 (by omega)
        have f2 := hcell 2 (by omega)
        have f3 := hcell 3 (by omega)
        rw [add2] at f0 f1 f2 f3
        obtain rfl : v0 = .int .i64 o := List.head_eq_of_cons_eq e0
        obtain rfl : v1 = .int .i64 p := List.head_eq_of_cons_eq e1
        obtain rfl : v2 = .string c := List.head_eq_of_cons_eq e2
        obtain rfl : v3 = .string q := List.head_eq_of_cons_eq e3
        exact ⟨(o, p, c, q), ⟨bounds_i64 w0, bounds_i64 w1, w2, w3⟩, f0, f1, f2, f3⟩
    obtain ⟨q, hq⟩ := Deep.choose_lt each
    refine ⟨some a, len, cap, (List.range len).map q, rfl, by simp, hl, hm, fun x hx => ?_, fun h0 => ?_⟩
    · obtain ⟨i, hi, rfl⟩ := List.mem_map.1 hx
      exact (hq i (List.mem_range.1 hi)).1
    · have c0 := (hq 0 h0).2.1
      have hs := spot_none c0
      obtain ⟨b, off, sp⟩ := a
      obtain rfl : sp = none := by simpa [Addr.add] using hs
      refine ⟨b, off, rfl, World.block_lt_of_cell? W _ c0, fun i hi => ?_⟩
      have hi' : i < len := by simpa using hi
      obtain ⟨_, g0, g1, g2, g3⟩ := hq i hi'
      simp only [List.getElem_map, List.getElem_range]
      rw [Addr.add_lit] at g0 g1 g2 g3
      exact ⟨g0, g1, g2, g3⟩
end Op4
end Go.Proofs.Ytegamajcipgkhaa
