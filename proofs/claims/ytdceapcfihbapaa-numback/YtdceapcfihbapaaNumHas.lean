/- What is told of a slice of bytes that a call may read ('Has'), and how it is carried on. -/
import Derived.Test.YtdceapcfihbapaaRows
import Derived.WalkKit
import Derived.WalkSpells
import Derived.Deep.AppendSrc
namespace Go.Proofs.Ytdceapcfihbapaa
namespace Num
open Go.RowKit

def cellsOf (xs : List Int) : List Value := xs.map (Value.int .u8)
theorem cellsOf_length (xs : List Int) : (cellsOf xs).length = xs.length := by simp [cellsOf]
theorem cellsOf_append (xs ys : List Int) : cellsOf (xs ++ ys) = cellsOf xs ++ cellsOf ys := by simp [cellsOf]
theorem cellsOf_one (xs : List Int) : ∀ u ∈ cellsOf xs, u.oneCell' = true := ints_oneCell .u8 xs

/-- The slice (a, n, c) reads as the bytes xs in w. -/
structure Has (w : World) (a : Option Addr) (n c : Nat) (xs : List Int) : Prop where
  len : xs.length = n
  cap : n ≤ c
  max : c ≤ maxLen
  nil : a = none → n = 0 ∧ c = 0
  cells : 0 < n → ∃ b off, a = some ⟨b, off, none⟩ ∧ b < w.heap.size ∧ ∀ i, i < n → w.cell? ⟨b, off + i, none⟩ = some (.int .u8 (xs.getD i 0))

theorem Has.none (w : World) : Has w .none 0 0 [] := ⟨rfl, Nat.le_refl _, Nat.zero_le _, fun _ => ⟨rfl, rfl⟩, fun h => absurd h (by omega)⟩

theorem Has.later {w w' : World} {a : Option Addr} {n c : Nat} {xs : List Int} (h : Has w a n c xs) (hb : Below w.heap.size w w') : Has w' a n c xs :=
  ⟨h.len, h.cap, h.max, h.nil, fun h0 => by
    obtain ⟨b, off, e, hlt, hc⟩ := h.cells h0
    exact ⟨b, off, e, Nat.lt_of_lt_of_le hlt hb.size, fun i hi => (hb.cell (p := ⟨b, off + i, Option.none⟩) hlt).trans (hc i hi)⟩⟩

theorem Has.news {w : World} {a : Option Addr} {n c : Nat} {xs : List Int} (h : Has w a n c xs) : ∀ ad, a = some ad → ∀ j u, (cellsOf xs)[j]? = some u → w.cell? (ad.add j) = some u := by
  intro ad had j u hu
  have hj : j < xs.length := by
    have := (List.getElem?_eq_some_iff.1 hu).1
    simpa [cellsOf] using this
  obtain ⟨b, off, e, _, hc⟩ := h.cells (by have := h.len; omega)
  rw [e] at had
  obtain rfl := Option.some.inj had
  rw [Addr.add_lit, hc j (by rw [← h.len]; exact hj)]
  simp [cellsOf, List.getElem?_eq_getElem hj] at hu
  simp [List.getD, List.getElem?_eq_getElem hj, hu]

/-- A row that the call owns reads as its bytes. -/
theorem Has.own {w : World} {B g n cap : Nat} {xs : List Int} (h : w.ownsRow B 5 1 (.slice (some ⟨g, 0, .none⟩) n cap) n (cellsOf xs)) : Has w (some ⟨g, 0, .none⟩) n cap xs := by
  have hl := h.1
  rw [cellsOf_length, Nat.mul_one] at hl
  have hlt := (h.lt g rfl).2
  rcases h.2 with ⟨hv, _⟩ | ⟨g', cap', cur, hv, hb, hg, hnc, hcm, hcs, htake⟩
  · cases hv
  · simp only [Value.slice.injEq, Option.some.injEq, Addr.mk.injEq, and_true, true_and] at hv
    obtain ⟨rfl, rfl⟩ := hv
    refine ⟨hl, hnc, hcm, fun e => (by cases e), fun _ => ⟨g, 0, rfl, hlt, fun i hi => ?_⟩⟩
    have := h.cells (g := g) rfl i (.int .u8 (xs.getD i 0)) (by simp [cellsOf, List.getD, List.getElem?_eq_getElem (show i < xs.length by omega)])
    rwa [Addr.add_lit] at this

/-- A part of it. -/
theorem Has.drop {w : World} {b off n c : Nat} {xs : List Int} (h : Has w (some ⟨b, off, .none⟩) n c xs) (k : Nat) (hk : k ≤ n) : Has w (some ⟨b, off + k, .none⟩) (n - k) (c - k) (xs.drop k) := by
  refine ⟨by rw [List.length_drop, h.len], by have := h.cap; omega, by have := h.max; omega, fun e => (by cases e), fun h0 => ?_⟩
  obtain ⟨b', off', e, hlt, hc⟩ := h.cells (by omega)
  simp only [Option.some.injEq, Addr.mk.injEq, and_true] at e
  obtain ⟨rfl, rfl⟩ := e
  refine ⟨b, off + k, rfl, hlt, fun i hi => ?_⟩
  rw [Nat.add_assoc, hc (k + i) (by omega)]
  simp [List.getD]
theorem Has.take {w : World} {a : Option Addr} {n c : Nat} {xs : List Int} (h : Has w a n c xs) (k : Nat) (hk : k ≤ n) : Has w a k c (xs.take k) := by
  refine ⟨by rw [List.length_take, h.len]; omega, by have := h.cap; omega, h.max, fun e => by have := h.nil e; omega, fun h0 => ?_⟩
  obtain ⟨b, off, e, hlt, hc⟩ := h.cells (by omega)
  refine ⟨b, off, e, hlt, fun i hi => ?_⟩
  rw [hc i (by omega)]
  simp [List.getD, hi]

/-- A list that the text writes out: its own row. -/
theorem own_lit (w : World) (e : TypeId) (xs : List Int) (hx : xs.length ≤ maxLen) : (w.alloc (.cells (cellsOf xs).toArray e)).ownsRow w.heap.size e 1 (.slice (some ⟨w.heap.size, 0, .none⟩) xs.length xs.length) xs.length (cellsOf xs) :=
  ⟨by simp [cellsOf], .inr ⟨w.heap.size, xs.length, _, rfl, Nat.le_refl _, heap_alloc_new w _, Nat.le_refl _, hx, by simp [cellsOf], by simp [cellsOf, List.take_of_length_le]⟩⟩
theorem Has.lit (w : World) (xs : List Int) (hx : xs.length ≤ maxLen) : Has (w.alloc (.cells (cellsOf xs).toArray 5)) (some ⟨w.heap.size, 0, .none⟩) xs.length xs.length xs := Has.own (own_lit w _ xs hx)

/-- What is told of a slice of integers that came in: it is nil; or it leads to a row of 'cap' cells, the first 'len' its elements, each fitting its kind. -/
def IsRow (k : IntKind) (w : World) (a : Option Addr) (len cap : Nat) (zs : List Int) : Prop :=
  (a = .none ∧ len = 0 ∧ cap = 0 ∧ zs = []) ∨
  ∃ x, a = some x ∧ len ≤ cap ∧ cap ≤ maxLen ∧ zs.length = cap ∧ (∀ i, i < zs.length → w.cell? (x.add i) = some (.int k (zs.getD i 0))) ∧ ∀ n ∈ zs, (Lit.int k n).wf = true

theorem info8 : (Try.prog.info? 5).map (fun i => (i.zero, i.size, i.bytes)) = some (some (.int .u8 0), 1, 1) := by kernel_rfl
end Num
end Go.Proofs.Ytdceapcfihbapaa
